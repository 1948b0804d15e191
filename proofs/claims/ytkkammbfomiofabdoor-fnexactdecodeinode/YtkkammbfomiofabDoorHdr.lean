/-
  Headers: validHeader, headerBlock, the program's EncodeHeader.
-/
import Derived.Test.YtkkammbfomiofabDoorBlk
namespace Go.Proofs.YtkkammbfomiofabDoor
open Go.RowKit
set_option linter.unusedSimpArgs false
set_option linter.unusedVariables false

def partB (n : Int) : Bool := decide (0 ≤ n) && decide (n ≤ 65535)
def hdrB (s p q : Int) : Bool := (decide (1 ≤ s) && decide (s ≤ 1099511627776)) && (partB p && partB q)
/-- The block of a header. -/
def hdrL (s p q : Int) : List Int := beB s 8 ++ (beB p 2 ++ (beB q 2 ++ (List.replicate 44 0 ++ beB s 8)))
def encH (s p q : Int) : List Int := if hdrB s p q = true then hdrL s p q else []
theorem hdrL_len (s p q : Int) : (hdrL s p q).length = 64 := by simp [hdrL, beB_len]

theorem hdr_bounds {s p q : Int} (h : hdrB s p q = true) : (1 ≤ s ∧ s ≤ 1099511627776) ∧ (0 ≤ p ∧ p ≤ 65535) ∧ 0 ≤ q ∧ q ≤ 65535 := by
  simp only [hdrB, partB, Bool.and_eq_true, decide_eq_true_eq] at h
  exact ⟨h.1, h.2.1, h.2.2⟩
theorem beB_zero (n : Nat) : beB 0 n = List.replicate n 0 := by
  induction n with
  | zero => rfl
  | succ n ih =>
    rw [beB, show (0 : Int) / 256 = 0 from rfl, ih, List.replicate_succ']; rfl
def hNums (s p q : Int) : List (Int × Int) := [(8, s), (2, p), (2, q), (44, 0), (8, s)]
theorem hNums_put (s p q : Int) : putL (hNums s p q) = hdrL s p q := by
  simp only [putL, hNums, List.flatMap_cons, List.flatMap_nil, List.append_nil, hdrL]
  rw [show (44 : Int).toNat = 44 from rfl, beB_zero]; rfl
theorem hNums_ok {s p q : Int} (h : hdrB s p q = true) : NOk 5 (hNums s p q) := by
  obtain ⟨⟨a1, a2⟩, ⟨b1, b2⟩, c1, c2⟩ := hdr_bounds h
  intro i hi
  match i, hi with
  | 0, _ => refine ⟨⟨?_, ?_⟩, ?_, ?_⟩ <;> simp [nW, nV, hNums] <;> omega
  | 1, _ => refine ⟨⟨?_, ?_⟩, ?_, ?_⟩ <;> simp [nW, nV, hNums] <;> omega
  | 2, _ => refine ⟨⟨?_, ?_⟩, ?_, ?_⟩ <;> simp [nW, nV, hNums] <;> omega
  | 3, _ => refine ⟨⟨?_, ?_⟩, ?_, ?_⟩ <;> simp [nW, nV, hNums]
  | 4, _ => refine ⟨⟨?_, ?_⟩, ?_, ?_⟩ <;> simp [nW, nV, hNums] <;> omega
theorem padL_full (xs : List Int) (m : Nat) (h : xs.length = m) : padL xs m = xs := by simp [padL, h]
theorem nread5 {w : World} {s p q : Int} {t : TypeId} {g : Nat} (hg : g = w.heap.size) : NRead (w.alloc (.cells #[.int .i64 8, .int .i64 s, .int .i64 2, .int .i64 p, .int .i64 2, .int .i64 q, .int .i64 44, .int .i64 0, .int .i64 8, .int .i64 s] t)) (some ⟨g, 0, none⟩) 5 (hNums s p q) := by
  subst hg
  refine ⟨rfl, .inr ⟨w.heap.size, 0, rfl, fun i hi => ?_⟩⟩
  match i, hi with
  | 0, _ => exact ⟨by rw [World.cell?_alloc_mark]; rfl, by rw [World.cell?_alloc_mark]; rfl⟩
  | 1, _ => exact ⟨by rw [World.cell?_alloc_mark]; rfl, by rw [World.cell?_alloc_mark]; rfl⟩
  | 2, _ => exact ⟨by rw [World.cell?_alloc_mark]; rfl, by rw [World.cell?_alloc_mark]; rfl⟩
  | 3, _ => exact ⟨by rw [World.cell?_alloc_mark]; rfl, by rw [World.cell?_alloc_mark]; rfl⟩
  | 4, _ => exact ⟨by rw [World.cell?_alloc_mark]; rfl, by rw [World.cell?_alloc_mark]; rfl⟩

theorem u8_all (xs : List Int) : (u8s xs).toArray.all (·.oneCell') = true := by
  rw [Array.all_eq_true_iff_forall_mem]
  intro x hx
  exact many_u8 _ x (by simpa using hx)

theorem info48s : (Tryd.prog.info? 48).map (·.size) = some 64 := by kernel_rfl

theorem row_of_block {w : World} {g : Nat} {xs : List Int} {G : Nat → Prop} {t : TypeId} (hg : w.heap[g]? = some (.cells (u8s xs).toArray t (0, 0))) (hG : G g) : Row .u8 G w (some ⟨g, 0, none⟩) xs.length xs := by
  refine ⟨rfl, .inr ⟨g, 0, rfl, hG, fun i hi => ?_⟩⟩
  rw [Nat.zero_add]
  refine ⟨?_, frozen_of_row w g i _ t hg⟩
  rw [cell_of_row w g i _ t _ hg]
  simp [u8s, hi]

end Go.Proofs.YtkkammbfomiofabDoor
