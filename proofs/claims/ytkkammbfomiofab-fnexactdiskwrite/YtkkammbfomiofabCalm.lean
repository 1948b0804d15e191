/-
  A region that draws its order and calls no function of the program, inside a fence: the plain rules go.
-/
import Derived.OrdersIn
import Derived.OrdersHeld
import Derived.OwnWalkIn
import Derived.Test.YtkkammbfomiofabFill
namespace Go.Proofs.Ytkkammbfomiofab
open Go
set_option linter.unusedSimpArgs false
set_option linter.unusedVariables false

/-- What an operation comes to that calls nobody. -/
def Plainly : Result Next → Prop
  | .ok (.value _) _ => True
  | .ok .skip _ => True
  | .halt _ _ => True
  | _ => False

theorem plainly_v (P : Program) (w : World) (s : Sem Value) : Plainly ((do pure (Next.value (← s)) : Sem Next).run P w) := by
  rw [Sem.run_bind]
  cases h : s.run P w <;> simp [Plainly, Result.andThen, Sem.run_pure]
theorem plainly_u (P : Program) (w : World) (s : Sem Unit) : Plainly ((do s; pure Next.skip : Sem Next).run P w) := by
  rw [Sem.run_bind]
  cases h : s.run P w <;> simp [Plainly, Result.andThen, Sem.run_pure]

/-- An operation that calls nobody. -/
def Calm (P : Program) (o : Oper) : Prop :=
  (∀ c, o.op ≠ .defer c) ∧ (∀ (w : World) (ρ : Operand → Value), o.about P w ρ = none) ∧ ∀ (ρ : Operand → Value) (w : World), Plainly ((execOp ρ o).run P w)

/-- The kinds of operations that are seen to be calm. -/
def calmOp : Op → Bool
  | .move _ | .assign _ | .load _ _ | .store _ _ _ | .fieldAddr _ _ _ | .sliceToArrayPointer _ _ | .build _ _ | .buildSlice _ _ _ | .indexAddr _ _ _ | .slice _ _ _ _ _ => true
  | .nilCheck _ => true
  | .call c => match c.callee with | .builtin .append => true | .builtin .len => true | .builtin .min => true | .builtin .copy => true | _ => false
  | _ => false

theorem plainly_bind {α : Type} (P : Program) (w : World) (s : Sem α) (f : α → Sem Next) (h : ∀ x w', Plainly ((f x).run P w')) : Plainly ((s >>= f).run P w) := by
  rw [Sem.run_bind]
  cases hs : s.run P w with
  | ok x w' => simp only [Result.andThen]; exact h x w'
  | halt x w' => simp [Plainly, Result.andThen]
theorem plainly_pure (P : Program) (w : World) (v : Value) : Plainly ((pure (Next.value v) : Sem Next).run P w) := by simp [Plainly, Sem.run_pure]
theorem plainly_panic (P : Program) (w : World) : Plainly ((runtimePanic .nilDeref : Sem Next).run P w) := by
  simp [runtimePanic, goPanic, Plainly]

theorem plainly_andThen (r : Result Value) : Plainly (r.andThen fun a w' => .ok (Next.value a) w') := by
  cases r <;> simp [Plainly, Result.andThen]

theorem calm_of {P : Program} {o : Oper} (h : calmOp o.op = true) : Calm P o := by
  obtain ⟨dst, op, ty, grd, aft, pos⟩ := o
  cases op <;> simp only [calmOp] at h <;> try cases h
  case nilCheck x =>
    refine ⟨fun c => by simp, fun w ρ => rfl, fun ρ w => ?_⟩
    unfold execOp
    dsimp only
    split
    · exact plainly_panic P w
    · exact plainly_panic P w
    · exact plainly_panic P w
    · split
      · exact plainly_panic P w
      · refine plainly_bind P w _ _ fun p w1 => plainly_bind P w1 _ _ fun b w2 => ?_
        split
        · exact plainly_bind P w2 _ _ fun _ w3 => plainly_pure P w3 _
        · exact plainly_pure P w2 _
      · exact plainly_pure P w _
    · exact plainly_pure P w _
  case call c =>
    obtain ⟨callee, args, argTypes⟩ := c
    cases callee <;> try cases h
    rename_i b
    cases b <;> try cases h
    all_goals
      refine ⟨fun c => by simp, fun w ρ => ?_, fun ρ w => ?_⟩
      · simp [Oper.about, resolve, Target.leads, Sem.run_pure]
      · unfold execOp
        dsimp only
        simp only [resolve, Sem.run_bind, Sem.run_pure, Result.andThen_ok, invoke, builtin]
        exact plainly_andThen _
  all_goals first
    | exact ⟨fun c => by simp, fun w ρ => rfl, fun ρ w => by unfold execOp; exact plainly_v P w _⟩
    | exact ⟨fun c => by simp, fun w ρ => rfl, fun ρ w => by unfold execOp; exact plainly_u P w _⟩
    | exact ⟨fun c => by simp, fun w ρ => rfl, fun ρ w => by unfold execOp; simp [Plainly, Sem.run_pure]⟩

section
variable {F : Fence} {n : Nat} {P : Program} {ops : Array Oper} {Q : Exit → Act → World → Prop} {md : Region.Mode}

theorem wpOpIn_of_wpOp {i : Nat} {K : Act → World → Prop} {a : Act} {w : World} (hc : ∀ (j : Nat) (o : Oper), ops[j]? = some o → Calm P o) (hQ : ∀ a w, ¬ Q .outgrown a w) (h : wpOp P ops Q i K a w) : wpOpIn F n P ops Q i K a w := by
  unfold wpOp at h
  unfold wpOpIn
  cases ho : ops[i]? with
  | none => simpa [ho] using h
  | some o =>
    simp only [ho] at h ⊢
    obtain ⟨c1, c2, c3⟩ := hc i o ho
    have hab : ∀ f, o.about P w a.eval = some f → F.fn f := fun f hf => by rw [c2] at hf; cases hf
    split
    · rename_i hw
      simp only [hw, if_true] at h
      rcases h with h | ⟨_, a', w', hq⟩
      · refine ⟨hab, ?_⟩
        rw [Oper.semAt_plain F _ _ c1]
        unfold Oper.wp at h
        have hp := c3 a.eval w
        generalize (execOp a.eval o).run P w = r at h hp ⊢
        cases r with
        | ok x w' => cases x <;> simp only [Plainly] at hp <;> exact h
        | halt x w' => cases x <;> exact h
      · exact absurd hq (hQ a' w')
    · rename_i hw
      simp only [hw] at h
      exact ⟨hab, h⟩

theorem wpAnyIn_of_wpAny (hc : ∀ (j : Nat) (o : Oper), ops[j]? = some o → Calm P o) (hQ : ∀ a w, ¬ Q .outgrown a w) : ∀ (fuel : Nat) (listed : Array Bool) (a : Act) (w : World), wpAny P md ops Q fuel listed a w → wpAnyIn F n P md ops Q fuel listed a w
  | 0, _, _, _, h => h
  | fuel + 1, _, _, _, h => ⟨h.1, fun i hi => wpOpIn_mono (fun a' w' h' => wpAnyIn_of_wpAny hc hQ fuel _ a' w' h') (wpOpIn_of_wpOp hc hQ (h.2 i hi))⟩

theorem Exit.then_mono_normal {Q : Exit → Act → World → Prop} {a : Act} {w : World} (h : Q .normal a w) : (fun e a w => e = Exit.normal ∧ Q .normal a w) .normal a w := ⟨rfl, h⟩

/-- The region that draws, inside a fence, by what is held: S. -/
theorem wpIn_region_calm {id : Nat} {a : Act} {w : World} (S : World → Prop) (hm : P.follows .mixedOrders = true) (hc : ops.all (fun o => calmOp o.op) = true) (hQ : ∀ a w, ¬ Q .outgrown a w)
    (h : wpAnyH P .any ops Q S ops.size (Array.replicate ops.size false) a { w with drawn := w.drawn + 1 }) : (Code.region id ops true).wpIn F n P Q a w :=
  wpIn_region_any hm (wpAnyIn_of_wpAny (fun j o ho => calm_of (by
    rw [Array.all_eq_true_iff_forall_mem] at hc
    exact hc o (Array.mem_of_getElem? ho))) hQ _ _ _ _ (wpAny_of_held _ _ _ _ h))
end
end Go.Proofs.Ytkkammbfomiofab
