/-
  Draws as functions: l1Blocks.
-/
import Derived.Test.YtkkammbfomiofaaDfl
namespace Go.Proofs.Ytkkammbfomiofaa
open Go.RowKit
set_option linter.unusedSimpArgs false
set_option linter.unusedVariables false

set_option maxHeartbeats 1000000 in
set_option maxRecDepth 100000 in
theorem l1Blocks_any (a p : Option Addr) (n ca m cp : Nat) (w : World) (hn : n ≤ 2097152) :
    Calls Try.prog 35 #[.agg #[.slice a n ca, .slice p m cp]] w fun e w' => e = .returned (.int .i64 ((n : Int) / 64)) ∧ Below w.heap.size w w' := by
  go_enter Try.func35, Try.ntmps35
  go_wp2
  go_ret
  exact ⟨ret_int (by first | rfl | simp | omega), (Below.refl _ _).alloc (Nat.le_refl _) _⟩
end Go.Proofs.Ytkkammbfomiofaa
