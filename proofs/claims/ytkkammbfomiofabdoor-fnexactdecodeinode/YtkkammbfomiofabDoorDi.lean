/-
  The program's DecodeHeader.
-/
import Derived.Test.YtkkammbfomiofabDoorDh
namespace Go.Proofs.YtkkammbfomiofabDoor
open Go.RowKit
set_option linter.unusedSimpArgs false
set_option linter.unusedVariables false

def Byt (xs : List Int) : Prop := ∀ x ∈ xs, 0 ≤ x ∧ x ≤ 255
theorem Byt.at {xs : List Int} (h : Byt xs) (i : Nat) (hi : i < xs.length) : 0 ≤ xs[i]?.getD 0 ∧ xs[i]?.getD 0 ≤ 255 := by
  rw [List.getElem?_eq_getElem hi]; exact h _ (List.getElem_mem hi)
theorem beB_byt (v : Int) (n : Nat) : Byt (beB v n) := by
  induction n generalizing v with
  | zero => intro x hx; simp [beB] at hx
  | succ n ih =>
    intro x hx
    rw [beB, List.mem_append] at hx
    rcases hx with hx | hx
    · exact ih _ x hx
    · simp only [List.mem_singleton] at hx; subst hx; omega
theorem hdrL_byt (s p q : Int) : Byt (hdrL s p q) := by
  intro x hx
  simp only [hdrL, List.mem_append] at hx
  rcases hx with hx | hx | hx | hx | hx
  · exact beB_byt _ _ x hx
  · exact beB_byt _ _ x hx
  · exact beB_byt _ _ x hx
  · have := List.eq_of_mem_replicate hx; omega
  · exact beB_byt _ _ x hx
/-- What is decoded. -/
def decB (xs : List Int) : Bool := decide (xs.length = 64 ∧ xs = encH (hS xs) (hP xs) (hQ xs))
def decV (xs : List Int) : Array Value := if decB xs = true then #[.bool true, .int .i64 (hS xs), .int .i64 (hP xs), .int .i64 (hQ xs)] else #[.bool false, .int .i64 0, .int .i64 0, .int .i64 0]
theorem decV_no {xs : List Int} (h : decB xs = false) : decV xs = #[.bool false, .int .i64 0, .int .i64 0, .int .i64 0] := by unfold decV; rw [h]; rfl
theorem decV_yes {xs : List Int} (h : decB xs = true) : decV xs = #[.bool true, .int .i64 (hS xs), .int .i64 (hP xs), .int .i64 (hQ xs)] := by unfold decV; rw [h]; rfl
theorem decB_len {xs : List Int} (h : xs.length ≠ 64) : decB xs = false := by simp [decB, h]
theorem decB_bad {xs : List Int} (h : hdrB (hS xs) (hP xs) (hQ xs) = false) : decB xs = false := by
  unfold decB encH
  rw [h]
  simp only [decide_eq_false_iff_not]
  rintro ⟨h1, h2⟩
  rw [if_neg (by simp)] at h2
  rw [h2] at h1
  simp at h1
theorem decB_good {xs : List Int} (h : hdrB (hS xs) (hP xs) (hQ xs) = true) (hl : xs.length = 64) : decB xs = decide (xs = hdrL (hS xs) (hP xs) (hQ xs)) := by
  unfold decB encH
  rw [if_pos h]
  simp [hl]

theorem reader_start (w : World) (a : Option Addr) (n c : Nat) : ∀ o1, ((w.alloc o1).alloc (.cells #[.slice a n c] 44)).cell? ⟨w.heap.size + 1, 0, none⟩ = some (.slice a n c) ∧ ((w.alloc o1).alloc (.cells #[.slice a n c] 44)).frozen? ⟨w.heap.size + 1, 0, none⟩ = false := fun o1 => by
  have k := heap_alloc2_new w o1 (.cells #[.slice a n c] 44)
  exact ⟨by rw [cell_of_row _ (w.heap.size + 1) 0 _ _ _ k]; rfl, frozen_of_row _ _ _ _ _ k⟩

end Go.Proofs.YtkkammbfomiofabDoor
