/-
  FnExactEncodeHeader: the law's walk.
-/
import Derived.Test.YtkkammbfomiofaaDoorHds
namespace Go.Proofs.YtkkammbfomiofaaDoor
open Go.RowKit
set_option linter.unusedSimpArgs false
set_option linter.unusedVariables false

theorem encH_len (s p q : Int) : (encH s p q).length ≤ 64 := by
  unfold encH
  split
  · rw [hdrL_len]; exact Nat.le_refl _
  · simp
theorem Row.drewH {k : IntKind} {G : Nat → Prop} {w : World} {a : Option Addr} {n : Nat} {xs : List Int} (h : Row k G w a n xs) (d : Nat) : Row k G (w.drewN d) a n xs := h
theorem below_dH {w : World} (d : Nat) : Below w.heap.size w (w.drewN d) := below_drewN (Below.refl _ _) d

end Go.Proofs.YtkkammbfomiofaaDoor
