/-
  The program's EncodeInode; the law's walk.
-/
import Derived.Test.YtkkammbfomiofabDoorIna
import Derived.Test.YtkkammbfomiofabDoorInw
namespace Go.Proofs.YtkkammbfomiofabDoor
open Go.RowKit
set_option linter.unusedSimpArgs false
set_option linter.unusedVariables false

theorem inoL_len {nm : ByteArray} {z : Int} {xs : List Int} (h : inoB nm z xs = true) : (inoL nm z xs).length = 64 := by
  obtain ⟨⟨f1, f2⟩, ⟨f3, f4⟩, f5, f6, f7⟩ := ino_facts h
  rw [inoL, padL_len]
  rw [List.length_append, List.length_append, padL_len _ _ (by rw [nmL_len]; exact f2), beB_len, lidL_len]; omega
theorem encI_len (nm : ByteArray) (z : Int) (xs : List Int) : (encI nm z xs).length ≤ 64 := by
  unfold encI
  split
  · rename_i h; rw [inoL_len h]; exact Nat.le_refl _
  · simp
theorem u8_allI (xs : List Int) : (u8s xs).toArray.all (·.oneCell') = true := by
  rw [Array.all_eq_true_iff_forall_mem]
  intro x hx
  exact many_u8 _ x (by simpa using hx)
theorem row_of_blockI {w : World} {g : Nat} {xs : List Int} {G : Nat → Prop} {t : TypeId} (hg : w.heap[g]? = some (.cells (u8s xs).toArray t (0, 0))) (hG : G g) : Row .u8 G w (some ⟨g, 0, none⟩) xs.length xs := by
  refine ⟨rfl, .inr ⟨g, 0, rfl, hG, fun i hi => ?_⟩⟩
  rw [Nat.zero_add]
  refine ⟨?_, frozen_of_row w g i _ t hg⟩
  rw [cell_of_row w g i _ t _ hg]
  simp [u8s, hi]

end Go.Proofs.YtkkammbfomiofabDoor
