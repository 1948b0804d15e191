/-
  Bytes, Fill, Calm, Cho.
-/
import Derived.Test.YtonpdbajoidigaaGreatDoorProg
import Derived.WalkKit
import Derived.WalkSpells
import Derived.WalkLawsBesides
import Derived.Deep.QuietTactic
import Derived.BigQuiet
import Derived.WalkSmall
import Derived.OrdersIn
import Derived.OrdersHeld
import Derived.OwnWalkIn
import Derived.RangeFuncNested
import Derived.RangeFuncBox
import Derived.RangeFuncLeaves
import Derived.Shelf.Abstract
import Derived.TacticsInMore
import Derived.LoopNIn
import Derived.LoopIn
import Derived.Maps.AppendAt
/-
  Rows of numbers in memory, and the law package's functions over lists of bytes: eqByteS, markByteS, heldByteS, toByteS, szByteS.
-/
namespace Go.Proofs.YtonpdbajoidigaaGreatDoor
open Go.RowKit

theorem ret_boolB {a b : Bool} (h : a = b) : Ending.returned (.bool a) = .returned (.bool b) := by rw [h]
theorem ret_int {k : IntKind} {a b : Int} (h : a = b) : Ending.returned (.int k a) = .returned (.int k b) := by rw [h]

/-- At a lie n numbers of kind k: xs. -/
def IRow (k : IntKind) (w : World) (a : Option Addr) (n : Nat) (xs : List Int) : Prop :=
  xs.length = n ∧ (n = 0 ∨ ∃ g off, a = some ⟨g, off, none⟩ ∧ ∀ i, i < n → w.cell? ⟨g, off + i, none⟩ = some (.int k (xs[i]?.getD 0)))

theorem IRow.below {k : IntKind} {w w' : World} {a : Option Addr} {n : Nat} {xs : List Int} (h : IRow k w a n xs) (hb : Below w.heap.size w w') : IRow k w' a n xs := by
  refine ⟨h.1, ?_⟩
  rcases h.2 with h0 | ⟨g, off, rfl, hc⟩
  · exact .inl h0
  · by_cases hn : n = 0
    · exact .inl hn
    · refine .inr ⟨g, off, rfl, fun i hi => ?_⟩
      rw [hb.cell (World.block_lt_of_cell? w _ (hc i hi))]; exact hc i hi

theorem getD_eq (xs : List Int) (i : Nat) (h : i < xs.length) : xs[i]?.getD 0 = xs[i] := by simp [h]

theorem take_eq_succ {xs ys : List Int} {k : Nat} (h : k < xs.length) (h' : k < ys.length) (e : xs.take k = ys.take k) (e' : xs[k]?.getD 0 = ys[k]?.getD 0) : xs.take (k + 1) = ys.take (k + 1) := by
  rw [getD_eq _ _ h, getD_eq _ _ h'] at e'
  rw [List.take_succ_eq_append_getElem h, List.take_succ_eq_append_getElem h', e, e']

end Go.Proofs.YtonpdbajoidigaaGreatDoor

/-
  Owned rows, what stays of a world, and the functions that write: toByteS, markByteS; heldByteS, szByteS.
-/
namespace Go.Proofs.YtonpdbajoidigaaGreatDoor
open Go.RowKit

/-- The blocks that are there stay as they are, but for those of G. -/
structure Kept (G : Nat → Prop) (w w' : World) : Prop where
  os : w'.os = w.os
  tape : w'.tape = w.tape
  output : w'.output = w.output
  size : w.heap.size ≤ w'.heap.size
  block : ∀ j, j < w.heap.size → ¬ G j → w'.heap[j]? = w.heap[j]?

theorem Kept.refl (G : Nat → Prop) (w : World) : Kept G w w := ⟨rfl, rfl, rfl, Nat.le_refl _, fun _ _ _ => rfl⟩
theorem Kept.trans {G : Nat → Prop} {a b c : World} (h : Kept G a b) (k : Kept G b c) : Kept G a c :=
  ⟨k.os.trans h.os, k.tape.trans h.tape, k.output.trans h.output, Nat.le_trans h.size k.size, fun j hj hg => (k.block j (Nat.lt_of_lt_of_le hj h.size) hg).trans (h.block j hj hg)⟩
theorem Kept.mono {G G' : Nat → Prop} {w w' : World} (h : Kept G w w') (hG : ∀ j, G j → G' j) : Kept G' w w' :=
  ⟨h.os, h.tape, h.output, h.size, fun j hj hg => h.block j hj (fun x => hg (hG j x))⟩
theorem Kept.below {G : Nat → Prop} {w w' : World} {B : Nat} (h : Kept G w w') (hB : B ≤ w.heap.size) (hG : ∀ j, G j → B ≤ j) : Below B w w' :=
  ⟨h.os, h.tape, h.output, h.size, fun j hj => h.block j (by omega) (fun x => by have := hG j x; omega)⟩
theorem Kept.of_below {w w' : World} (h : Below w.heap.size w w') (G : Nat → Prop) : Kept G w w' :=
  ⟨h.os, h.tape, h.output, h.size, fun j hj _ => h.block j hj⟩
theorem Kept.setCell (w : World) (p : Addr) (u : Value) (G : Nat → Prop) (hp : G p.block) : Kept G w (w.setCell p u) :=
  ⟨rfl, rfl, rfl, by simp [World.setCell], fun j _ hg => Below.heap_setCell _ _ _ _ (fun e => hg (e ▸ hp))⟩
theorem Kept.drewN (w : World) (d : Nat) (G : Nat → Prop) : Kept G w (w.drewN d) := ⟨rfl, rfl, rfl, Nat.le_refl _, fun _ _ _ => rfl⟩
theorem Kept.drew (w : World) (G : Nat → Prop) : Kept G w w.drew := ⟨rfl, rfl, rfl, Nat.le_refl _, fun _ _ _ => rfl⟩

/-- At a lie n numbers of kind k in a block of G; they may be written. -/
def Row (k : IntKind) (G : Nat → Prop) (w : World) (a : Option Addr) (n : Nat) (xs : List Int) : Prop :=
  xs.length = n ∧ (n = 0 ∨ ∃ g off, a = some ⟨g, off, none⟩ ∧ G g ∧ ∀ i, i < n → w.cell? ⟨g, off + i, none⟩ = some (.int k (xs[i]?.getD 0)) ∧ w.frozen? ⟨g, off + i, none⟩ = false)

theorem Row.read {k : IntKind} {G : Nat → Prop} {w : World} {a : Option Addr} {n : Nat} {xs : List Int} (h : Row k G w a n xs) : IRow k w a n xs :=
  ⟨h.1, h.2.imp id fun ⟨g, off, e, _, hc⟩ => ⟨g, off, e, fun i hi => (hc i hi).1⟩⟩
theorem Row.mono {k : IntKind} {G G' : Nat → Prop} {w : World} {a : Option Addr} {n : Nat} {xs : List Int} (h : Row k G w a n xs) (hG : ∀ j, G j → G' j) : Row k G' w a n xs :=
  ⟨h.1, h.2.imp id fun ⟨g, off, e, hg, hc⟩ => ⟨g, off, e, hG g hg, hc⟩⟩
theorem Row.kept {k : IntKind} {G G' : Nat → Prop} {w w' : World} {a : Option Addr} {n : Nat} {xs : List Int} (h : Row k G w a n xs) (hk : Kept G' w w') (hd : ∀ j, G j → ¬ G' j) : Row k G w' a n xs := by
  refine ⟨h.1, ?_⟩
  by_cases hn : n = 0
  · exact .inl hn
  rcases h.2 with h0 | ⟨g, off, e, hg, hc⟩
  · exact .inl h0
  · refine .inr ⟨g, off, e, hg, fun i hi => ?_⟩
    have hl := World.block_lt_of_cell? w _ (hc i hi).1
    have hb := hk.block g hl (hd g hg)
    exact ⟨(World.cell?_of_block (a := ⟨g, off + i, none⟩) hb).trans (hc i hi).1, (World.frozen?_of_block (a := ⟨g, off + i, none⟩) hb).trans (hc i hi).2⟩
theorem Row.below {k : IntKind} {G : Nat → Prop} {w w' : World} {a : Option Addr} {n : Nat} {xs : List Int} (h : Row k G w a n xs) (hb : Below w.heap.size w w') : Row k G w' a n xs :=
  h.kept (Kept.of_below hb fun _ => False) fun _ _ => id

/-- n cells from off on in block g: they hold f. -/
def Cells (k : IntKind) (w : World) (g off n : Nat) (f : Nat → Int) : Prop :=
  ∀ i, i < n → w.cell? ⟨g, off + i, none⟩ = some (.int k (f i)) ∧ w.frozen? ⟨g, off + i, none⟩ = false

theorem Cells.set {k : IntKind} {w : World} {g off n : Nat} {f : Nat → Int} (h : Cells k w g off n f) (j : Nat) (hj : j < n) (x : Int) (f' : Nat → Int) (hf : ∀ i, i < n → f' i = if i = j then x else f i) :
    Cells k (w.setCell ⟨g, off + j, none⟩ (.int k x)) g off n f' := by
  intro i hi
  refine ⟨?_, by rw [World.frozen?_setCell]; exact (h i hi).2⟩
  rw [hf i hi]
  by_cases e : i = j
  · subst e; rw [if_pos rfl]; exact World.cell?_setCell_same _ _ _ (h i hi).1
  · rw [if_neg e, World.cell?_setCell_other _ _ _ _ (by intro e'; injection e' with e1 e2 e3; omega)]; exact (h i hi).1

theorem Cells.drew {k : IntKind} {w : World} {g off n : Nat} {f : Nat → Int} (h : Cells k w g off n f) : Cells k w.drew g off n f := h

theorem Cells.row {k : IntKind} {G : Nat → Prop} {w : World} {g off n : Nat} {f : Nat → Int} {xs : List Int} (h : Cells k w g off n f) (hg : G g) (hl : xs.length = n) (hf : ∀ i, i < n → xs[i]?.getD 0 = f i) : Row k G w (some ⟨g, off, none⟩) n xs :=
  ⟨hl, .inr ⟨g, off, rfl, hg, fun i hi => by rw [hf i hi]; exact h i hi⟩⟩

theorem info5 : (Tryz.prog.info? 5).map (fun i => (i.zero, i.size, i.bytes)) = some (some (.int .u8 0), 1, 1) := by kernel_rfl

theorem Below.of_grown {w w' : World} (h : w.grownBy w' none) : Below w.heap.size w w' := ⟨h.os, h.tape, h.output, h.size, fun j hj => h.block j hj (by simp)⟩

theorem step_if (k i : Nat) (xs : List Int) : (if i < k + 1 then xs[i]?.getD 0 else 0) = if i = k then xs[k]?.getD 0 else if i < k then xs[i]?.getD 0 else 0 := by
  by_cases e : i = k
  · subst e; simp
  · rw [if_neg e]; by_cases h : i < k
    · rw [if_pos h, if_pos (by omega)]
    · rw [if_neg h, if_neg (by omega)]

/-- What make([]T, n) leaves. -/
theorem made_cells {k : IntKind} {w1 : World} {B g n e : Nat} (h : w1.ownsRow B e 1 (.slice (some ⟨g, 0, none⟩) n n) n (madeCells #[.int k 0] n).toList) : Cells k w1 g 0 n (fun _ => 0) := by
  intro i hi
  refine ⟨?_, by rw [Nat.zero_add]; exact h.frozenAt i⟩
  rw [Nat.zero_add, h.cellAt i (by omega), toList_madeCells_one]
  simp [hi]

theorem made_size {w1 : World} {B g n e sz : Nat} {xs : List Value} (h : w1.ownsRow B e sz (.slice (some ⟨g, 0, none⟩) n n) n xs) : g < w1.heap.size := (h.lt g rfl).2

end Go.Proofs.YtonpdbajoidigaaGreatDoor

/-
  A region that draws its order and calls no function of the program, inside a fence: the plain rules go.
-/
namespace Go.Proofs.YtonpdbajoidigaaGreatDoor
open Go
set_option linter.unusedSimpArgs false
set_option linter.unusedVariables false

/-- What an operation comes to that calls nobody. -/
def Plainly : Result Next → Prop
  | .ok (.value _) _ => True
  | .ok .skip _ => True
  | .halt _ _ => True
  | _ => False

theorem plainly_v (P : Program) (w : World) (s : Sem Value) : Plainly ((do pure (Next.value (← s)) : Sem Next).run P w) := by
  rw [Sem.run_bind]
  cases h : s.run P w <;> simp [Plainly, Result.andThen, Sem.run_pure]
theorem plainly_u (P : Program) (w : World) (s : Sem Unit) : Plainly ((do s; pure Next.skip : Sem Next).run P w) := by
  rw [Sem.run_bind]
  cases h : s.run P w <;> simp [Plainly, Result.andThen, Sem.run_pure]

/-- An operation that calls nobody. -/
def Calm (P : Program) (o : Oper) : Prop :=
  (∀ c, o.op ≠ .defer c) ∧ (∀ (w : World) (ρ : Operand → Value), o.about P w ρ = none) ∧ ∀ (ρ : Operand → Value) (w : World), Plainly ((execOp ρ o).run P w)

/-- The kinds of operations that are seen to be calm. -/
def calmOp : Op → Bool
  | .move _ | .assign _ | .load _ _ | .store _ _ _ | .fieldAddr _ _ _ | .sliceToArrayPointer _ _ | .build _ _ | .buildSlice _ _ _ | .indexAddr _ _ _ | .slice _ _ _ _ _ => true
  | .nilCheck _ => true
  | .call c => match c.callee with | .builtin .append => true | .builtin .len => true | .builtin .min => true | .builtin .copy => true | _ => false
  | _ => false

theorem plainly_bind {α : Type} (P : Program) (w : World) (s : Sem α) (f : α → Sem Next) (h : ∀ x w', Plainly ((f x).run P w')) : Plainly ((s >>= f).run P w) := by
  rw [Sem.run_bind]
  cases hs : s.run P w with
  | ok x w' => simp only [Result.andThen]; exact h x w'
  | halt x w' => simp [Plainly, Result.andThen]
theorem plainly_pure (P : Program) (w : World) (v : Value) : Plainly ((pure (Next.value v) : Sem Next).run P w) := by simp [Plainly, Sem.run_pure]
theorem plainly_panic (P : Program) (w : World) : Plainly ((runtimePanic .nilDeref : Sem Next).run P w) := by
  simp [runtimePanic, goPanic, Plainly]

theorem plainly_andThen (r : Result Value) : Plainly (r.andThen fun a w' => .ok (Next.value a) w') := by
  cases r <;> simp [Plainly, Result.andThen]

theorem calm_of {P : Program} {o : Oper} (h : calmOp o.op = true) : Calm P o := by
  obtain ⟨dst, op, ty, grd, aft, pos⟩ := o
  cases op <;> simp only [calmOp] at h <;> try cases h
  case nilCheck x =>
    refine ⟨fun c => by simp, fun w ρ => rfl, fun ρ w => ?_⟩
    unfold execOp
    dsimp only
    split
    · exact plainly_panic P w
    · exact plainly_panic P w
    · exact plainly_panic P w
    · split
      · exact plainly_panic P w
      · refine plainly_bind P w _ _ fun p w1 => plainly_bind P w1 _ _ fun b w2 => ?_
        split
        · exact plainly_bind P w2 _ _ fun _ w3 => plainly_pure P w3 _
        · exact plainly_pure P w2 _
      · exact plainly_pure P w _
    · exact plainly_pure P w _
  case call c =>
    obtain ⟨callee, args, argTypes⟩ := c
    cases callee <;> try cases h
    rename_i b
    cases b <;> try cases h
    all_goals
      refine ⟨fun c => by simp, fun w ρ => ?_, fun ρ w => ?_⟩
      · simp [Oper.about, resolve, Target.leads, Sem.run_pure]
      · unfold execOp
        dsimp only
        simp only [resolve, Sem.run_bind, Sem.run_pure, Result.andThen_ok, invoke, builtin]
        exact plainly_andThen _
  all_goals first
    | exact ⟨fun c => by simp, fun w ρ => rfl, fun ρ w => by unfold execOp; exact plainly_v P w _⟩
    | exact ⟨fun c => by simp, fun w ρ => rfl, fun ρ w => by unfold execOp; exact plainly_u P w _⟩
    | exact ⟨fun c => by simp, fun w ρ => rfl, fun ρ w => by unfold execOp; simp [Plainly, Sem.run_pure]⟩

section
variable {F : Fence} {n : Nat} {P : Program} {ops : Array Oper} {Q : Exit → Act → World → Prop} {md : Region.Mode}

theorem wpOpIn_of_wpOp {i : Nat} {K : Act → World → Prop} {a : Act} {w : World} (hc : ∀ (j : Nat) (o : Oper), ops[j]? = some o → Calm P o) (hQ : ∀ a w, ¬ Q .outgrown a w) (h : wpOp P ops Q i K a w) : wpOpIn F n P ops Q i K a w := by
  unfold wpOp at h
  unfold wpOpIn
  cases ho : ops[i]? with
  | none => simpa [ho] using h
  | some o =>
    simp only [ho] at h ⊢
    obtain ⟨c1, c2, c3⟩ := hc i o ho
    have hab : ∀ f, o.about P w a.eval = some f → F.fn f := fun f hf => by rw [c2] at hf; cases hf
    split
    · rename_i hw
      simp only [hw, if_true] at h
      rcases h with h | ⟨_, a', w', hq⟩
      · refine ⟨hab, ?_⟩
        rw [Oper.semAt_plain F _ _ c1]
        unfold Oper.wp at h
        have hp := c3 a.eval w
        generalize (execOp a.eval o).run P w = r at h hp ⊢
        cases r with
        | ok x w' => cases x <;> simp only [Plainly] at hp <;> exact h
        | halt x w' => cases x <;> exact h
      · exact absurd hq (hQ a' w')
    · rename_i hw
      simp only [hw] at h
      exact ⟨hab, h⟩

theorem wpAnyIn_of_wpAny (hc : ∀ (j : Nat) (o : Oper), ops[j]? = some o → Calm P o) (hQ : ∀ a w, ¬ Q .outgrown a w) : ∀ (fuel : Nat) (listed : Array Bool) (a : Act) (w : World), wpAny P md ops Q fuel listed a w → wpAnyIn F n P md ops Q fuel listed a w
  | 0, _, _, _, h => h
  | fuel + 1, _, _, _, h => ⟨h.1, fun i hi => wpOpIn_mono (fun a' w' h' => wpAnyIn_of_wpAny hc hQ fuel _ a' w' h') (wpOpIn_of_wpOp hc hQ (h.2 i hi))⟩

theorem Exit.then_mono_normal {Q : Exit → Act → World → Prop} {a : Act} {w : World} (h : Q .normal a w) : (fun e a w => e = Exit.normal ∧ Q .normal a w) .normal a w := ⟨rfl, h⟩

/-- The region that draws, inside a fence, by what is held: S. -/
theorem wpIn_region_calm {id : Nat} {a : Act} {w : World} (S : World → Prop) (hm : P.follows .mixedOrders = true) (hc : ops.all (fun o => calmOp o.op) = true) (hQ : ∀ a w, ¬ Q .outgrown a w)
    (h : wpAnyH P .any ops Q S ops.size (Array.replicate ops.size false) a { w with drawn := w.drawn + 1 }) : (Code.region id ops true).wpIn F n P Q a w :=
  wpIn_region_any hm (wpAnyIn_of_wpAny (fun j o ho => calm_of (by
    rw [Array.all_eq_true_iff_forall_mem] at hc
    exact hc o (Array.mem_of_getElem? ho))) hQ _ _ _ _ (wpAny_of_held _ _ _ _ h))
end
end Go.Proofs.YtonpdbajoidigaaGreatDoor

/-
  slices.Chunk over bytes: pieces of 64.
-/
namespace Go.Proofs.YtonpdbajoidigaaGreatDoor
open Go.RowKit Go.Shelf
set_option linter.unusedSimpArgs false
set_option linter.unusedVariables false

attribute [local go_sem] Oper.semAt_some

set_option maxRecDepth 100000 in
set_option maxHeartbeats 2000000 in
theorem chunk_in (F : Fence) (n : Nat) (hfn : F.fn 36) (hro : F.round = none) (a : Option Addr) (len cap : Nat) (w : World) :
    CallsIn F n Tryz.prog 36 #[.slice a len cap, .int .i64 64] w fun e w' => e = .returned (.func (.func 60) #[] #[.pointer (some ⟨w.heap.size, 0, none⟩), .pointer (some ⟨w.heap.size + 1, 0, none⟩)]) ∧ w' = (w.alloc (.cells #[.slice a len cap] 22)).alloc (.cells #[.int .i64 64] 3) := by
  have hmf : ∀ (fn : Fn) (first cap : Array Value) (w : World), (Instr.makeFunc fn first cap).run Tryz.prog w = .ok (.func fn first cap) w := fun _ _ _ _ => rfl
  refine callsIn_of_wp Tryz.func36 rfl hfn ?_ hro
  simp only [Tryz.ntmps36, List.size_toArray, List.length_cons, List.length_nil, Nat.reduceAdd, Nat.reduceSub, Array.replicate_succ, Array.replicate_zero, List.push_toArray, List.append_toArray, List.nil_append, List.cons_append]
  gi_wp2
  go_ret
  exact ⟨rfl, rfl⟩

theorem grown_none_drew (w : World) : w.grownBy w.drew none := ⟨rfl, rfl, rfl, Nat.le_refl _, fun _ _ _ => rfl⟩
theorem grown_none_drewN (w : World) (d : Nat) : w.grownBy (w.drewN d) none := ⟨rfl, rfl, rfl, Nat.le_refl _, fun _ _ _ => rfl⟩
theorem meas_lt {m : Nat} {x e : Int} (h : x = e + 64) (hM : m - (e + 64).toNat < m - e.toNat) : m - (intOf (.int .i64 x)).toNat < m - (intOf (.int .i64 e)).toNat := by
  subst h
  exact hM
theorem range_prefix {a b : Nat} (h : a ≤ b) : List.range a <+: List.range b := by
  obtain ⟨c, rfl⟩ := Nat.exists_eq_add_of_le h
  rw [List.range_add]
  exact List.prefix_append _ _

/-- The first k blocks of nb. -/
def fL (nb k : Nat) : List (Fin nb) := (List.finRange nb).take k
theorem fL_succ {nb k : Nat} (h : k < nb) : fL nb (k + 1) = fL nb k ++ [⟨k, h⟩] := by
  unfold fL
  rw [List.take_succ_eq_append_getElem (by simpa using h)]
  simp
theorem fL_len {nb k : Nat} (h : k ≤ nb) : (fL nb k).length = k := by simp [fL]; omega
theorem fL_all (nb : Nat) : fL nb nb = List.finRange nb := by unfold fL; rw [List.take_of_length_le (by simp)]
theorem fL_prefix (nb k : Nat) : fL nb k <+: List.finRange nb := List.take_prefix _ _

set_option maxRecDepth 100000 in
set_option maxHeartbeats 600000 in
theorem chunk1_in (n : Nat) (hn : 1 ≤ n) (l Bs Bn : Nat) (G : Nat → Prop) (b off nb cap : Nat) (hlen : nb ≤ 4096) (J Jx : List (Fin nb) → World → Prop) (N0 : Nat) (hAb : AbidesFrom N0 J)
    (hBs0 : ¬ G Bs) (hBn0 : ¬ G Bn)
    (hY : ∀ (pre : List (Fin nb)) (x : Fin nb) (W : World), J pre W → pre.length < nb → YieldAt Fence.wide (n - 1) Tryz.prog l #[.slice (some ⟨b, off + 64 * x.1, none⟩) 64 64] W fun e W' =>
      (e = .returned (.bool true) ∧ J (pre ++ [x]) W' ∧ Kept G W W') ∨ (e = .returned (.bool false) ∧ Jx (pre ++ [x]) W'))
    (W : World) (hBs : W.cell? ⟨Bs, 0, none⟩ = some (.slice (some ⟨b, off, none⟩) (nb * 64) cap)) (hBn : W.cell? ⟨Bn, 0, none⟩ = some (.int .i64 64)) (hcap : nb * 64 ≤ cap) (h0 : J [] W) :
    CallsIn Fence.wide n Tryz.prog 60 #[.func (.yield l) #[] #[], .pointer (some ⟨Bs, 0, none⟩), .pointer (some ⟨Bn, 0, none⟩)] W fun e W' => (∃ v, e = .returned v) ∧
      ((∃ ys, ys = List.finRange nb ∧ J ys W') ∨ (∃ pre, pre <+: List.finRange nb ∧ Jx pre W')) := by
  refine callsIn_of_wp Tryz.func60 rfl trivial ?_ rfl
  simp only [Tryz.ntmps60, List.size_toArray, List.length_cons, List.length_nil, Nat.reduceAdd, Nat.reduceSub, Array.replicate_succ, Array.replicate_zero, List.push_toArray, List.append_toArray, List.nil_append, List.cons_append]
  gi_wp2
  gi_loopw [4] (fun i wr => ∃ k : Nat, k ≤ nb ∧ i = .int .i64 ((k * 64 : Nat) : Int) ∧ J (fL nb k) wr ∧ Kept G W wr)
    (fun i _ => nb * 64 - (intOf i).toNat)
  case atStart => exact ⟨0, Nat.zero_le _, rfl, by simpa [fL] using h0, Kept.refl _ _⟩
  case round =>
    obtain ⟨k, hk, rfl, hJs, hnx⟩ := hrel
    have c1 : wr.cell? ⟨Bs, 0, none⟩ = some (.slice (some ⟨b, off, none⟩) (nb * 64) cap) := (World.cell?_of_block (a := ⟨Bs, 0, none⟩) (hnx.block Bs (World.block_lt_of_cell? W _ hBs) hBs0)).trans hBs
    have c2 : wr.cell? ⟨Bn, 0, none⟩ = some (.int .i64 64) := (World.cell?_of_block (a := ⟨Bn, 0, none⟩) (hnx.block Bn (World.block_lt_of_cell? W _ hBn) hBn0)).trans hBn
    by_cases hlt : k < nb
    · obtain ⟨e, he⟩ : ∃ e, e = k * 64 := ⟨_, rfl⟩
      obtain ⟨L, hL⟩ : ∃ L, L = nb * 64 := ⟨_, rfl⟩
      have hJ2 : J (fL nb k) wr.drew := hAb _ _ _ none hJs (grown_none_drew wr) (fun r e => by cases e)
      have hB2 : Kept G W wr.drew := hnx.trans (Kept.drew wr G)
      obtain ⟨fn, tmps, assign, body, hy, hR⟩ := hY _ ⟨k, hlt⟩ _ hJ2 (by rw [fL_len hk]; exact hlt)
      rw [show off + 64 * (⟨k, hlt⟩ : Fin nb).1 = off + e by show off + 64 * k = off + e; omega] at hy
      have HS : Hid (J (fL nb k ++ [⟨k, hlt⟩]) = J (fL nb (k + 1))) := by show _ = _; rw [fL_succ hlt]
      have HE : Hid (e = k * 64 ∧ L = nb * 64) := ⟨he, hL⟩
      have HR : Hid (RoundIn Fence.wide (n - 1) Tryz.prog l fn tmps assign body wr.drew fun e W' => (e = .returned (.bool true) ∧ J (fL nb k ++ [⟨k, hlt⟩]) W' ∧ Kept G wr.drew W') ∨ (e = .returned (.bool false) ∧ Jx (fL nb k ++ [⟨k, hlt⟩]) W')) := hR
      have HY : Hid ((Instr.yield l #[.slice (some ⟨b, off + e, none⟩) 64 64]).run Tryz.prog wr.drew = .ok (.round l fn tmps assign body) wr.drew) := hy
      rw [← he]
      rw [← hL] at c1 hcap
      have e4 : (e : Int) < (L : Int) := by omega
      have e1 : Hid (e + 64 ≤ L ∧ L ≤ cap ∧ L ≤ 262144) := by show _ ∧ _; omega
      have HM : Hid (nb * 64 - ((e : Int) + 64).toNat < nb * 64 - ((e : Nat) : Int).toNat) := by
        show _ < _
        clear hcap c1 c2 hBs hBn e1 HE
        rw [Int.toNat_natCast, show ((e : Int) + 64).toNat = e + 64 by omega]
        omega
      clear he hL hR hy hY hJs hJ2 hlen hcap
      gi_wp2
      refine wpIn_region_calm (fun W => W.cell? ⟨Bs, 0, none⟩ = some (.slice (some ⟨b, off, none⟩) L cap) ∧ W.cell? ⟨Bn, 0, none⟩ = some (.int .i64 64)) (by kernel_rfl) (by kernel_rfl) (fun a w h => by obtain ⟨⟨v, e⟩, _⟩ := h; cases e) ?_
      change wpAnyH _ _ _ _ _ _ _ _ wr.drew
      have e2 : (e : Int) ≤ (L : Int) := by omega
      have e3 : (0 : Int) ≤ (e : Int) := by omega
      have e5 : ¬ cap = e := by have := e1.out; omega
      have e6 : ¬ ((L - e : Nat) : Int) < 64 := by have := e1.out; omega
      refine wpAnyH_take (i := 0) (v := .int .i64 64) rfl (by kernel_rfl) (by kernel_rfl) (by kernel_rfl) (fun _ _ _ h => h) (Or.inl ⟨rfl, fun W hW => by obtain ⟨h1, h2⟩ := hW; go_simp⟩) ⟨c1, c2⟩ ?_
      refine wpAnyH_take (i := 1) (v := .slice (some ⟨b, off, none⟩) L cap) rfl (by kernel_rfl) (by kernel_rfl) (by kernel_rfl) (fun _ _ _ h => h) (Or.inl ⟨rfl, fun W hW => by obtain ⟨h1, h2⟩ := hW; go_simp⟩) ⟨c1, c2⟩ ?_
      refine wpAnyH_take (i := 2) (v := .int .i64 (e : Int)) rfl (by kernel_rfl) (by kernel_rfl) (by kernel_rfl) (fun _ _ _ h => h) (Or.inl ⟨rfl, fun W hW => by go_simp⟩) ⟨c1, c2⟩ ?_
      refine wpAnyH_take (i := 3) (v := .slice (some ⟨b, off + e, none⟩) (L - e) (cap - e)) rfl (by kernel_rfl) (by kernel_rfl) (by kernel_rfl) (fun _ _ _ h => h) (Or.inl ⟨rfl, fun W hW => by go_simp⟩) ⟨c1, c2⟩ ?_
      refine wpAnyH_take (i := 4) (v := .int .i64 ((L - e : Nat) : Int)) rfl (by kernel_rfl) (by kernel_rfl) (by kernel_rfl) (fun _ _ _ h => h) (Or.inl ⟨rfl, fun W hW => by go_simp⟩) ⟨c1, c2⟩ ?_
      refine wpAnyH_take (i := 5) (v := .int .i64 64) rfl (by kernel_rfl) (by kernel_rfl) (by kernel_rfl) (fun _ _ _ h => h) (Or.inl ⟨rfl, fun W hW => by go_simp⟩) ⟨c1, c2⟩ ?_
      refine wpAnyH_take (i := 6) (v := .int .i64 64) rfl (by kernel_rfl) (by kernel_rfl) (by kernel_rfl) (fun _ _ _ h => h) (Or.inl ⟨rfl, fun W hW => by go_simp⟩) ⟨c1, c2⟩ ?_
      refine wpAnyH_done (by kernel_rfl) ?_ _
      clear e6 e2 e4
      have e10 : wrap64 ((e : Int) + 64) = (e : Int) + 64 := by have := e1.out; unfold wrap64; omega
      have e11 : ((e : Int) + 64).toNat - e = 64 := by omega
      have e9 : (e : Int) + 64 ≤ (cap : Int) := by have := e1.out; omega
      have e12 : (0 : Int) ≤ (e : Int) + 64 := by omega
      have hy := HY.out
      gi_wp2
      refine HR.out.mono ?_
      rintro e' W3 (⟨rfl, hJ3, hk3⟩ | ⟨rfl, hJx3⟩)
      · have c3 : W3.cell? ⟨Bn, 0, none⟩ = some (.int .i64 64) := (World.cell?_of_block (a := ⟨Bn, 0, none⟩) (hk3.block Bn (World.block_lt_of_cell? wr _ c2) hBn0)).trans c2
        rw [HS.out] at hJ3
        have HJ3 := hJ3
        have hB3 := hB2.trans hk3
        have HE10 : Hid (wrap64 ((e : Int) + 64) = (e : Int) + 64) := e10
        clear hJ3 hk3 hB2 hy e3 e5 e9 e10 e11 e12 c1 c2
        gi_wp2
        go_roundw
        case rel => exact ⟨k + 1, by omega, by have h1 := HE.out; have h2 := HE10.out; first | (rw [h2]; congr 1; omega) | (congr 1; omega), HJ3, hB3⟩
        case measure => exact meas_lt HE10.out HM.out
      · clear e3 e5 e9 e10 e11 e12 c1 c2 hy hB2
        gi_wp2
        refine bodyPost_ret (results_none rfl _ _ _) rfl ?_
        exact ⟨⟨_, rfl⟩, .inr ⟨_, by rw [← fL_succ hlt]; exact fL_prefix nb (k + 1), hJx3⟩⟩
    · obtain rfl : k = nb := by omega
      gi_wp2
      go_end0
      exact ⟨⟨_, rfl⟩, .inl ⟨_, fL_all k, hJs⟩⟩

/-- What chunk hands over, as a sequence of numbers of blocks. -/
theorem chunk_stops (n : Nat) (hn : 1 ≤ n) (Bs Bn : Nat) (G : Nat → Prop) (b off nb cap : Nat) (hlen : nb ≤ 4096) (w : World) (hBs0 : ¬ G Bs) (hBn0 : ¬ G Bn)
    (hc : w.cell? ⟨Bs, 0, none⟩ = some (.slice (some ⟨b, off, none⟩) (nb * 64) cap)) (hc2 : w.cell? ⟨Bn, 0, none⟩ = some (.int .i64 64)) (hcap : nb * 64 ≤ cap) :
    SeqStopsK Fence.wide n Tryz.prog 60 #[.pointer (some ⟨Bs, 0, none⟩), .pointer (some ⟨Bn, 0, none⟩)] (fun x : Fin nb => #[Value.slice (some ⟨b, off + 64 * x.1, none⟩) 64 64]) (Kept G) (fun ys => ys = List.finRange nb) (fun pre => pre <+: List.finRange nb) nb w := fun l J Jx W hW hAb _ hY h0 =>
  chunk1_in n hn l Bs Bn G b off nb cap hlen J Jx W.heap.size hAb hBs0 hBn0 (fun pre x W' hJ hl => hY pre x W' hJ hl) W ((hW.cell (p := ⟨Bs, 0, none⟩) (World.block_lt_of_cell? w _ hc)).trans hc) ((hW.cell (p := ⟨Bn, 0, none⟩) (World.block_lt_of_cell? w _ hc2)).trans hc2) hcap h0
end Go.Proofs.YtonpdbajoidigaaGreatDoor
