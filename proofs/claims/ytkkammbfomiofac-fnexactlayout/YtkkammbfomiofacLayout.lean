/-
  FnExactLayout: the row, out of the walk of Layo. The frame is the guide's skeleton.
-/
import Derived.Test.YtkkammbfomiofacRows
import Derived.Test.YtkkammbfomiofacLayo
import Derived.WalkKit
import Derived.ProofKit
import Derived.OpenShut
import Derived.ChangeOld
import Derived.Below
import Derived.Lib.SmallJoins
namespace Go.Proofs.Ytkkammbfomiofac
open Go.ChangeShapes Go.WideShapes Go.ChangeAt Go.RowKit Go.Joins
set_option linter.unusedVariables false

theorem own : ownKnob Try.prog.godebug = none := by kernel_rfl
theorem laidOut : laidOutB Try.prog = true := by kernel_rfl
theorem cellsG : Try.prog.cellsOf 38 = 2 := by kernel_rfl

set_option maxRecDepth 100000 in
theorem layout_lifted (os : Os) (started : os.Started) (H : Type) (enc : TypeId × Value → H) :
    ReturnsInHanded {} Try.checked os 5 .any (Rows.fnExactLayoutSpec.pre6 enc Try.prog Try.f5 Rows.fnExactLayoutRow.domain false) (Rows.fnExactLayoutSpec.post enc Try.prog Try.f5 false true false false) := by
  refine returnsInHanded_of_change (C := Try.checked) own started (by kernel_rfl) Try.func5
    (ChangeSpec.witness6 (enc := enc) (C := Try.checked) false ⟨#[], #[.agg #[.int .i64 0, .int .i64 0]], []⟩ 8 (by kernel_rfl) (by kernel_rfl) (by kernel_rfl) (by kernel_rfl)) ?_
  intro W base args ds gs before hval0 hW hcnd _
  have hval : ∀ (j : Nat) t v, Try.f5.params[j]? = some t → args[j]? = some v → Value.okWide Try.prog W .any base t v := hval0
  have hW' := hW
  obtain ⟨p, q, hA0, hV, rfl, hfz, hnd⟩ := hW
  have hA : DataW.TrodAll enc Try.prog W 0 (fun _ => true) true Try.f5.params.toList args.toList ds p := hA0
  rw [Try.params5] at hA hval
  obtain ⟨v0, vs0, d0, ds0, p0, q0, hargs, rfl, rfl, h0, r0⟩ := trodAll_cons hA
  obtain ⟨rfl, rfl, rfl⟩ := trodAll_nil r0
  obtain rfl : args = #[v0] := by cases args; simp_all
  obtain ⟨rfl, rfl⟩ := trodVars_none hV
  have k0 := h0
  have lt0 : ∀ x ∈ p0, x.block < W.heap.size := by obtain ⟨m, hm⟩ := k0; exact DataW.trod_lt m _ _ _ hm
  obtain ⟨c0a, c0b, y0a, y0b, fm0, hv0, _, _, hy0a, hy0b⟩ := open_agg2 Try.underlying38 (by kernel_rfl) cellsG (hval 0 38 v0 rfl rfl) h0
  subst hv0
  have e0a : DataW.trod enc Try.prog W 0 (fun _ => true) true fm0 2 [c0a] = some y0a := hy0a
  obtain ⟨i0a, g0a, _, _⟩ := DataW.trod_int Try.underlying2 e0a
  injection g0a with g0a _
  subst g0a
  have e0b : DataW.trod enc Try.prog W 0 (fun _ => true) true fm0 2 [c0b] = some y0b := hy0b
  obtain ⟨i0b, g0b, _, _⟩ := DataW.trod_int Try.underlying2 e0b
  injection g0b with g0b _
  subst g0b
  clear hA0 hval0
  refine (law_layout i0a i0b W ).mono fun e W' ⟨he, bel⟩ => ?_
  subst he
  exact ⟨_, rfl, _, _, _, [], _, [], hW', trodAll_mk1 (shut_bool Try.underlying4 _), (trodAll_cons_mk (Below.trod laidOut (by kernel_rfl) (of_decide_eq_true (by kernel_rfl)) k0 bel lt0) trodAll_mk0), rfl, bel.frame _, fun h => by cases h⟩

theorem layout_over : Rows.fnExactLayoutRow.holds Try.pinned (OpenSpec.ofChange Rows.fnExactLayoutSpec) :=
  OpenClaim.holds_of_wide 5 Try.f5 rfl rfl rfl rfl rfl rfl rfl ⟨rfl, rfl, rfl, rfl, rfl⟩ rfl rfl rfl rfl rfl (by kernel_rfl) Try.func5 (by kernel_rfl)
    (of_decide_eq_true (by kernel_rfl)) (by unfold Func.isWrapper; first | (rw [if_pos (by decide +kernel)]; kernel_rfl) | (rw [if_neg (by decide +kernel)]; exact ⟨rfl, rfl⟩))
    (fun os started H enc _ => layout_lifted os started H enc)

theorem layout_holds : Rows.FnExactLayoutSaid := layout_over
#print axioms layout_holds
end Go.Proofs.Ytkkammbfomiofac
