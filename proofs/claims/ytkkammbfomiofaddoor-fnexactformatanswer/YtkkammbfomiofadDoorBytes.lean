/-
  Rows of numbers in memory, and the law package's functions over lists of bytes: eqByteS, markByteS, heldByteS, toByteS, szByteS.
-/
import Derived.Test.YtkkammbfomiofadDoorProg
import Derived.WalkKit
import Derived.WalkSpells
import Derived.WalkLawsBesides
import Derived.Deep.QuietTactic
import Derived.BigQuiet
import Derived.WalkSmall
namespace Go.Proofs.YtkkammbfomiofadDoor
open Go.RowKit

theorem ret_boolB {a b : Bool} (h : a = b) : Ending.returned (.bool a) = .returned (.bool b) := by rw [h]
theorem ret_int {k : IntKind} {a b : Int} (h : a = b) : Ending.returned (.int k a) = .returned (.int k b) := by rw [h]

/-- At a lie n numbers of kind k: xs. -/
def IRow (k : IntKind) (w : World) (a : Option Addr) (n : Nat) (xs : List Int) : Prop :=
  xs.length = n ∧ (n = 0 ∨ ∃ g off, a = some ⟨g, off, none⟩ ∧ ∀ i, i < n → w.cell? ⟨g, off + i, none⟩ = some (.int k (xs[i]?.getD 0)))

theorem IRow.below {k : IntKind} {w w' : World} {a : Option Addr} {n : Nat} {xs : List Int} (h : IRow k w a n xs) (hb : Below w.heap.size w w') : IRow k w' a n xs := by
  refine ⟨h.1, ?_⟩
  rcases h.2 with h0 | ⟨g, off, rfl, hc⟩
  · exact .inl h0
  · by_cases hn : n = 0
    · exact .inl hn
    · refine .inr ⟨g, off, rfl, fun i hi => ?_⟩
      rw [hb.cell (World.block_lt_of_cell? w _ (hc i hi))]; exact hc i hi

theorem getD_eq (xs : List Int) (i : Nat) (h : i < xs.length) : xs[i]?.getD 0 = xs[i] := by simp [h]

theorem take_eq_succ {xs ys : List Int} {k : Nat} (h : k < xs.length) (h' : k < ys.length) (e : xs.take k = ys.take k) (e' : xs[k]?.getD 0 = ys[k]?.getD 0) : xs.take (k + 1) = ys.take (k + 1) := by
  rw [getD_eq _ _ h, getD_eq _ _ h'] at e'
  rw [List.take_succ_eq_append_getElem h, List.take_succ_eq_append_getElem h', e, e']

end Go.Proofs.YtkkammbfomiofadDoor
