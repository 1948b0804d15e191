/-
  The program's parseTruncate and parseFill, of no field.
-/
import Derived.Test.YtfgfdjcgfbodfaaGreatDoorPio
namespace Go.Proofs.YtfgfdjcgfbodfaaGreatDoor
open Go.RowKit
set_option linter.unusedSimpArgs false
set_option linter.unusedVariables false

theorem parseTrunc_none (a : Option Addr) (c : Nat) (w : World) :
    Calls Tryz.prog 31 #[.slice a 0 c] w fun e w' => LAns w w' e .bad := by
  go_enter Tryz.func31, Tryz.ntmps31
  go_wp2
  refine bodyPost_ret (v := lnV .bad (.slice none 0 0)) (by simp [results, Tryz.results31, go_sem, lnV, LN.bad]) rfl ?_
  refine ⟨_, rfl, World.ownsRow_nil _ _ _ _, ?_⟩
  repeat' (first | with_reducible refine Below.setCell ?_ ?_ _ | with_reducible refine Below.alloc ?_ ?_ _ | with_reducible refine Below.drew ?_ | with_reducible assumption | with_reducible exact Below.refl _ _ | (simp; done) | (simp; omega) | omega)
theorem parseFill_none (a : Option Addr) (c : Nat) (w : World) :
    Calls Tryz.prog 29 #[.slice a 0 c] w fun e w' => LAns w w' e .bad := by
  go_enter Tryz.func29, Tryz.ntmps29
  go_wp2
  refine bodyPost_ret (v := lnV .bad (.slice none 0 0)) (by simp [results, Tryz.results29, go_sem, lnV, LN.bad]) rfl ?_
  refine ⟨_, rfl, World.ownsRow_nil _ _ _ _, ?_⟩
  repeat' (first | with_reducible refine Below.setCell ?_ ?_ _ | with_reducible refine Below.alloc ?_ ?_ _ | with_reducible refine Below.drew ?_ | with_reducible assumption | with_reducible exact Below.refl _ _ | (simp; done) | (simp; omega) | omega)
end Go.Proofs.YtfgfdjcgfbodfaaGreatDoor
