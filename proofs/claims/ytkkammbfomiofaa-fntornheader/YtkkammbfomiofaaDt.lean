/-
  The specification's DecodeHeader: the long way.
-/
import Derived.Test.YtkkammbfomiofaaDs
import Derived.Deep.CutRange
namespace Go.Proofs.Ytkkammbfomiofaa
open Go.RowKit
set_option linter.unusedSimpArgs false
set_option linter.unusedVariables false

theorem encH_byt (s p q : Int) : Byt (encH s p q) := by
  unfold encH
  split
  · exact hdrL_byt s p q
  · intro x hx; simp at hx
theorem after3 {w : World} (o1 o2 : Obj) : Below w.heap.size w ((w.alloc o1).drew.alloc o2) ∧ ((w.alloc o1).drew.alloc o2).heap[w.heap.size]? = some o1 ∧ ((w.alloc o1).drew.alloc o2).heap[w.heap.size + 1]? = some o2 := by
  obtain ⟨k1, k2, hb, s0⟩ := @two_blocks w o1 o2
  exact ⟨(((Below.refl _ _).alloc (Nat.le_refl _) _).drew).alloc (by simp) _, k1, k2⟩

end Go.Proofs.Ytkkammbfomiofaa
