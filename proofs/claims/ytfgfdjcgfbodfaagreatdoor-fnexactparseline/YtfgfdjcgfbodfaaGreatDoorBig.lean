/-
  Numbers as bytes: l2Big.
-/
import Derived.Test.YtfgfdjcgfbodfaaGreatDoorMark
namespace Go.Proofs.YtfgfdjcgfbodfaaGreatDoor
open Go.RowKit
set_option linter.unusedSimpArgs false
set_option linter.unusedVariables false

/-- v as n bytes, the highest first. -/
def beB (v : Int) : Nat → List Int
  | 0 => []
  | n + 1 => beB (v / 256) n ++ [v % 256]
theorem beB_len (n : Nat) : ∀ v : Int, (beB v n).length = n := by
  induction n with
  | zero => intro v; rfl
  | succ n ih => intro v; simp [beB, ih]

/-- Bytes as cells. -/
def u8s (xs : List Int) : List Value := xs.map (Value.int .u8)
theorem u8s_append (xs ys : List Int) : u8s (xs ++ ys) = u8s xs ++ u8s ys := by simp [u8s]
theorem u8s_len (xs : List Int) : (u8s xs).length = xs.length := by simp [u8s]

/-- What is owned by the append laws, as a row of ours. -/
theorem owns_row {w : World} {B n : Nat} {v : Value} {xs : List Int} (h : w.ownsRow B 5 1 v n (u8s xs)) : ∃ a c, v = .slice a n c ∧ Row .u8 (fun g => B ≤ g ∧ g < w.heap.size) w a n xs := by
  have hl : xs.length = n := by have := h.1; rw [u8s_len] at this; omega
  rcases h.2 with ⟨rfl, h0⟩ | ⟨g, cap, cur, rfl, hB, hg, hc, hm, hsz, ht⟩
  · exact ⟨none, 0, by rw [h0], hl, .inl h0⟩
  · refine ⟨some ⟨g, 0, none⟩, cap, rfl, hl, ?_⟩
    by_cases h0 : n = 0
    · exact .inl h0
    · refine .inr ⟨g, 0, rfl, ⟨hB, (Array.getElem?_eq_some_iff.1 hg).1⟩, fun i hi => ?_⟩
      rw [Nat.zero_add]
      refine ⟨?_, h.frozenAt i⟩
      rw [h.cellAt i (by omega)]
      simp [u8s, List.getElem?_eq_getElem (show i < xs.length by omega)]

theorem owns_some {w : World} {B n : Nat} {v : Value} {xs : List Value} (h : w.ownsRow B 5 1 v n xs) (hn : 0 < n) : ∃ g c, v = .slice (some ⟨g, 0, none⟩) n c ∧ (∀ j u, xs[j]? = some u → w.cell? ((⟨g, 0, none⟩ : Addr).add j) = some u) ∧ g < w.heap.size := by
  have h' := h
  rcases h.2 with ⟨rfl, h0⟩ | ⟨g, cap, cur, rfl, hB, hg, hc, hm, hsz, ht⟩
  · omega
  · exact ⟨g, cap, rfl, h'.cells rfl, (Array.getElem?_eq_some_iff.1 hg).1⟩

theorem one_cell {w : World} {x : Value} {t : TypeId} : ∀ j u, [x][j]? = some u → (w.alloc (.cells #[x] t)).cell? ((⟨w.heap.size, 0, none⟩ : Addr).add j) = some u := by
  intro j u hj
  match j, hj with
  | 0, hj => simp at hj; subst hj; simp [Addr.add]
theorem one_u8 (x : Int) : ∀ u ∈ [Value.int .u8 x], u.oneCell' = true := by intro u hu; simp at hu; subst hu; rfl
theorem many_u8 (xs : List Int) : ∀ u ∈ u8s xs, u.oneCell' = true := by intro u hu; simp [u8s] at hu; obtain ⟨a, _, rfl⟩ := hu; rfl

theorem empty_owned (w : World) : (w.alloc (.cells #[] 5)).ownsRow w.heap.size 5 1 (.slice (some ⟨w.heap.size, 0, none⟩) 0 0) 0 [] :=
  World.ownsRow_made w #[] 0 (Nat.le_refl _) (Nat.zero_le _) rfl

end Go.Proofs.YtfgfdjcgfbodfaaGreatDoor
