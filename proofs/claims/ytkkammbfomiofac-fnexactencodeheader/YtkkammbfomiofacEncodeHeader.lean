/-
  FnExactEncodeHeader: the row, out of the walk of Hdl. The frame is the guide's skeleton.
-/
import Derived.Test.YtkkammbfomiofacRows
import Derived.Test.YtkkammbfomiofacHdl
import Derived.WalkKit
import Derived.ProofKit
import Derived.OpenShut
import Derived.ChangeOld
import Derived.Below
import Derived.Lib.SmallJoins
namespace Go.Proofs.Ytkkammbfomiofac
open Go.ChangeShapes Go.WideShapes Go.ChangeAt Go.RowKit Go.Joins
set_option linter.unusedVariables false

theorem own : ownKnob Try.prog.godebug = none := by kernel_rfl
theorem laidOut : laidOutB Try.prog = true := by kernel_rfl
theorem cells23 : Try.prog.cellsOf 23 = 3 := by kernel_rfl

set_option maxRecDepth 100000 in
theorem encodeHeader_lifted (os : Os) (started : os.Started) (H : Type) (enc : TypeId × Value → H) :
    ReturnsInHanded {} Try.checked os 3 .any (Rows.fnExactEncodeHeaderSpec.pre6 enc Try.prog Try.f3 Rows.fnExactEncodeHeaderRow.domain false) (Rows.fnExactEncodeHeaderSpec.post enc Try.prog Try.f3 false true false false) := by
  refine returnsInHanded_of_change (C := Try.checked) own started (by kernel_rfl) Try.func3
    (ChangeSpec.witness6 (enc := enc) (C := Try.checked) false ⟨#[], #[.agg #[.int .i64 0, .int .i64 0, .int .i64 0]], []⟩ 8 (by kernel_rfl) (by kernel_rfl) (by kernel_rfl) (by kernel_rfl)) ?_
  intro W base args ds gs before hval0 hW hcnd _
  have hval : ∀ (j : Nat) t v, Try.f3.params[j]? = some t → args[j]? = some v → Value.okWide Try.prog W .any base t v := hval0
  have hW' := hW
  obtain ⟨p, q, hA0, hV, rfl, hfz, hnd⟩ := hW
  have hA : DataW.TrodAll enc Try.prog W 0 (fun _ => true) true Try.f3.params.toList args.toList ds p := hA0
  rw [Try.params3] at hA hval
  obtain ⟨v0, vs0, d0, ds0, p0, q0, hargs, rfl, rfl, h0, r0⟩ := trodAll_cons hA
  obtain ⟨rfl, rfl, rfl⟩ := trodAll_nil r0
  obtain rfl : args = #[v0] := by cases args; simp_all
  obtain ⟨rfl, rfl⟩ := trodVars_none hV
  have k0 := h0
  have lt0 : ∀ x ∈ p0, x.block < W.heap.size := by obtain ⟨m, hm⟩ := k0; exact DataW.trod_lt m _ _ _ hm
  obtain ⟨c0, c1, c2, y0, y1, y2, fm, hv0, _, _, hy0, hy1, hy2⟩ := open_agg3 Try.underlying23 (by kernel_rfl) cells23 (hval 0 23 v0 rfl rfl) h0
  subst hv0
  have e0 : DataW.trod enc Try.prog W 0 (fun _ => true) true fm 2 [c0] = some y0 := hy0
  have e1 : DataW.trod enc Try.prog W 0 (fun _ => true) true fm 2 [c1] = some y1 := hy1
  have e2 : DataW.trod enc Try.prog W 0 (fun _ => true) true fm 2 [c2] = some y2 := hy2
  obtain ⟨i0, g0, _, _⟩ := DataW.trod_int Try.underlying2 e0
  obtain ⟨i1, g1, _, _⟩ := DataW.trod_int Try.underlying2 e1
  obtain ⟨i2, g2, _, _⟩ := DataW.trod_int Try.underlying2 e2
  injection g0 with g0 _
  injection g1 with g1 _
  injection g2 with g2 _
  subst g0; subst g1; subst g2
  clear hA0 hval0
  refine (law_encodeHeader i0 i1 i2 W).mono fun e W' ⟨he, bel⟩ => ?_
  subst he
  exact ⟨_, rfl, _, _, _, [], _, [], hW', trodAll_mk1 (shut_bool Try.underlying4 _), (trodAll_cons_mk (Below.trod laidOut (by kernel_rfl) (of_decide_eq_true (by kernel_rfl)) k0 bel lt0) trodAll_mk0), rfl, bel.frame _, fun h => by cases h⟩

theorem encodeHeader_over : Rows.fnExactEncodeHeaderRow.holds Try.pinned (OpenSpec.ofChange Rows.fnExactEncodeHeaderSpec) :=
  OpenClaim.holds_of_wide 3 Try.f3 rfl rfl rfl rfl rfl rfl rfl ⟨rfl, rfl, rfl, rfl, rfl⟩ rfl rfl rfl rfl rfl (by kernel_rfl) Try.func3 (by kernel_rfl)
    (of_decide_eq_true (by kernel_rfl)) (by unfold Func.isWrapper; first | (rw [if_pos (by decide +kernel)]; kernel_rfl) | (rw [if_neg (by decide +kernel)]; exact ⟨rfl, rfl⟩))
    (fun os started H enc _ => encodeHeader_lifted os started H enc)

theorem encodeHeader_holds : Rows.FnExactEncodeHeaderSaid := encodeHeader_over
#print axioms encodeHeader_holds
end Go.Proofs.Ytkkammbfomiofac
