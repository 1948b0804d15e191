/-
  Ent, Fri, Frc.
-/
import Derived.Test.YtonpdbajoidigaaGreatDoorGb
import Derived.Deep.RegionWith
import Derived.RangeFuncNested
import Derived.RangeFuncBox
import Derived.RangeFuncLeaves
import Derived.Shelf.Abstract
import Derived.OwnWalkIn
import Derived.TacticsInMore
import Derived.LoopNIn
import Derived.LoopIn
import Derived.Maps.AppendAt
import Derived.Test.YtonpdbajoidigaaGreatDoorGg
/-
  Lists of entries: szEntryS, toEntry, toEntryS, eqEntry, eqEntryS, markEntryS.
-/
namespace Go.Proofs.YtonpdbajoidigaaGreatDoor
open Go.RowKit
set_option linter.unusedSimpArgs false
set_option linter.unusedVariables false

def eA (es : List (Int × Bool)) (i : Nat) : Int := (es[i]?.getD (0, false)).1
def eI (es : List (Int × Bool)) (i : Nat) : Bool := (es[i]?.getD (0, false)).2
def ERead (w : World) (a : Option Addr) (m : Nat) (es : List (Int × Bool)) : Prop :=
  es.length = m ∧ (m = 0 ∨ ∃ g off, a = some ⟨g, off, none⟩ ∧ ∀ i, i < m → w.cell? ⟨g, off + i * 2, none⟩ = some (.int .i64 (eA es i)) ∧ w.cell? ⟨g, off + i * 2 + 1, none⟩ = some (.bool (eI es i)))
/-- .. that may be written, in a block of G. -/
def EOwn (G : Nat → Prop) (w : World) (a : Option Addr) (m : Nat) (es : List (Int × Bool)) : Prop :=
  es.length = m ∧ (m = 0 ∨ ∃ g off, a = some ⟨g, off, none⟩ ∧ G g ∧ ∀ i, i < m → (w.cell? ⟨g, off + i * 2, none⟩ = some (.int .i64 (eA es i)) ∧ w.frozen? ⟨g, off + i * 2, none⟩ = false) ∧ w.cell? ⟨g, off + i * 2 + 1, none⟩ = some (.bool (eI es i)) ∧ w.frozen? ⟨g, off + i * 2 + 1, none⟩ = false)
theorem EOwn.read {G : Nat → Prop} {w : World} {a : Option Addr} {m : Nat} {es : List (Int × Bool)} (h : EOwn G w a m es) : ERead w a m es :=
  ⟨h.1, h.2.imp id fun ⟨g, off, e, _, hc⟩ => ⟨g, off, e, fun i hi => ⟨(hc i hi).1.1, (hc i hi).2.1⟩⟩⟩
theorem EOwn.mono {G G' : Nat → Prop} {w : World} {a : Option Addr} {m : Nat} {es : List (Int × Bool)} (h : EOwn G w a m es) (hG : ∀ g, G g → G' g) : EOwn G' w a m es :=
  ⟨h.1, h.2.imp id fun ⟨g, off, e, hg, hc⟩ => ⟨g, off, e, hG g hg, hc⟩⟩
theorem ERead.below {w w' : World} {a : Option Addr} {m : Nat} {es : List (Int × Bool)} (h : ERead w a m es) (hb : Below w.heap.size w w') : ERead w' a m es := by
  refine ⟨h.1, ?_⟩
  by_cases hm : m = 0
  · exact .inl hm
  rcases h.2 with h0 | ⟨g, off, e, hc⟩
  · exact .inl h0
  · refine .inr ⟨g, off, e, fun i hi => ?_⟩
    rw [hb.cell (World.block_lt_of_cell? w _ (hc i hi).1), hb.cell (World.block_lt_of_cell? w _ (hc i hi).2)]
    exact hc i hi
theorem EOwn.kept {G G' : Nat → Prop} {w w' : World} {a : Option Addr} {m : Nat} {es : List (Int × Bool)} (h : EOwn G w a m es) (hk : Kept G' w w') (hd : ∀ g, G g → ¬ G' g) : EOwn G w' a m es := by
  refine ⟨h.1, ?_⟩
  by_cases hm : m = 0
  · exact .inl hm
  rcases h.2 with h0 | ⟨g, off, e, hg, hc⟩
  · exact .inl h0
  · refine .inr ⟨g, off, e, hg, fun i hi => ?_⟩
    have hb := hk.block g (World.block_lt_of_cell? w _ (hc i hi).2.1) (hd g hg)
    rw [World.cell?_of_block (a := ⟨g, off + i * 2, none⟩) hb, World.frozen?_of_block (a := ⟨g, off + i * 2, none⟩) hb, World.cell?_of_block (a := ⟨g, off + i * 2 + 1, none⟩) hb, World.frozen?_of_block (a := ⟨g, off + i * 2 + 1, none⟩) hb]
    exact hc i hi
theorem EOwn.below {G : Nat → Prop} {w w' : World} {a : Option Addr} {m : Nat} {es : List (Int × Bool)} (h : EOwn G w a m es) (hb : Below w.heap.size w w') : EOwn G w' a m es :=
  h.kept (Kept.of_below hb fun _ => False) fun _ _ => id

theorem e_take_succ {xs ys : List (Int × Bool)} {k : Nat} (h : k < xs.length) (h' : k < ys.length) (e : xs.take k = ys.take k) (e' : eA xs k = eA ys k ∧ eI xs k = eI ys k) : xs.take (k + 1) = ys.take (k + 1) := by
  rw [List.take_succ_eq_append_getElem h, List.take_succ_eq_append_getElem h', e]
  simp only [eA, eI, List.getElem?_eq_getElem h, List.getElem?_eq_getElem h', Option.getD_some] at e'
  rw [Prod.ext e'.1 e'.2]
theorem e_ne {xs ys : List (Int × Bool)} {k : Nat} (e' : decide (eA xs k = eA ys k ∧ eI xs k = eI ys k) = false) : decide (xs = ys) = false := by
  simp only [decide_eq_false_iff_not] at e' ⊢
  intro e; subst e; exact e' ⟨rfl, rfl⟩

/-- n entries from the head of block g on hold f; all may be written. -/
def ECells (w : World) (g off n : Nat) (f : Nat → Int × Bool) : Prop :=
  ∀ i, i < n → (w.cell? ⟨g, off + i * 2, none⟩ = some (.int .i64 (f i).1) ∧ w.frozen? ⟨g, off + i * 2, none⟩ = false) ∧ w.cell? ⟨g, off + i * 2 + 1, none⟩ = some (.bool (f i).2) ∧ w.frozen? ⟨g, off + i * 2 + 1, none⟩ = false
theorem ECells.set {w : World} {g off n : Nat} {f : Nat → Int × Bool} (h : ECells w g off n f) (j : Nat) (hj : j < n) (x : Int) (b : Bool) (f' : Nat → Int × Bool) (hf : ∀ i, i < n → f' i = if i = j then (x, b) else f i) :
    ECells ((w.setCell ⟨g, off + j * 2, none⟩ (.int .i64 x)).setCell ⟨g, off + j * 2 + 1, none⟩ (.bool b)) g off n f' := by
  intro i hi
  obtain ⟨⟨c1, c2⟩, c3, c4⟩ := h i hi
  simp only [World.frozen?_setCell]
  rw [hf i hi]
  by_cases e : i = j
  · subst e
    rw [if_pos rfl]
    refine ⟨⟨?_, c2⟩, ?_, c4⟩
    · rw [World.cell?_setCell_other (h := by intro e; injection e with e1 e2 e3; omega)]
      exact World.cell?_setCell_same _ _ _ c1
    · exact World.cell?_setCell_same _ _ _ (by rw [World.cell?_setCell_other (h := by intro e; injection e with e1 e2 e3; omega)]; exact c3)
  · rw [if_neg e]
    refine ⟨⟨?_, c2⟩, ?_, c4⟩
    · rw [World.cell?_setCell_other (h := by intro e; injection e with e1 e2 e3; omega), World.cell?_setCell_other (h := by intro e; injection e with e1 e2 e3; omega)]
      exact c1
    · rw [World.cell?_setCell_other (h := by intro e; injection e with e1 e2 e3; omega), World.cell?_setCell_other (h := by intro e; injection e with e1 e2 e3; omega)]
      exact c3
theorem ECells.own {G : Nat → Prop} {w : World} {g off n : Nat} {f : Nat → Int × Bool} {es : List (Int × Bool)} (h : ECells w g off n f) (hg : G g) (hl : es.length = n) (hf : ∀ i, i < n → f i = (eA es i, eI es i)) : EOwn G w (some ⟨g, off, none⟩) n es :=
  ⟨hl, .inr ⟨g, off, rfl, hg, fun i hi => by have := h i hi; rw [hf i hi] at this; exact this⟩⟩
theorem EOwn.cells {G : Nat → Prop} {w : World} {g off n : Nat} {es : List (Int × Bool)} (hc : ∀ i, i < n → (w.cell? ⟨g, off + i * 2, none⟩ = some (.int .i64 (eA es i)) ∧ w.frozen? ⟨g, off + i * 2, none⟩ = false) ∧ w.cell? ⟨g, off + i * 2 + 1, none⟩ = some (.bool (eI es i)) ∧ w.frozen? ⟨g, off + i * 2 + 1, none⟩ = false) : ECells w g off n (fun i => (eA es i, eI es i)) := hc
theorem step_e {β : Type} (k i : Nat) (p q : Nat → β) : (if i < k + 1 then p i else q i) = if i = k then p k else if i < k then p i else q i := by
  by_cases e : i = k
  · subst e; simp
  · rw [if_neg e]; by_cases h : i < k
    · rw [if_pos h, if_pos (by omega)]
    · rw [if_neg h, if_neg (by omega)]

theorem info164 : (Tryz.prog.info? 164).map (fun i => (i.zero, i.size, i.bytes)) = some (some (.agg #[.int .i64 0, .bool false]), 2, 16) := by kernel_rfl
theorem made_twoE (x y : Value) (n i : Nat) (h : i < n) : (madeCells #[x, y] (n * 2)).toList[i * 2]? = some x ∧ (madeCells #[x, y] (n * 2)).toList[i * 2 + 1]? = some y := by
  have h1 : i * 2 < n * 2 := by omega
  have h2 : i * 2 + 1 < n * 2 := by omega
  constructor
  · simp [madeCells, h1]
  · simp [madeCells, h2, Nat.add_mod]
theorem made_ecells {w1 : World} {B g n e : Nat} (h : w1.ownsRow B e 2 (.slice (some ⟨g, 0, none⟩) n n) n (madeCells #[.int .i64 0, .bool false] (n * 2)).toList) : ECells w1 g 0 n (fun _ => (0, false)) := by
  intro i hi
  obtain ⟨m1, m2⟩ := made_twoE (.int .i64 0) (.bool false) n i hi
  simp only [Nat.zero_add]
  refine ⟨⟨?_, h.frozenAt _⟩, ?_, h.frozenAt _⟩
  · rw [h.cellAt _ (by omega), m1]
  · rw [h.cellAt _ (by omega), m2]

end Go.Proofs.YtonpdbajoidigaaGreatDoor

/-
  FreeLids: the iterator freeLids and its contract.
-/
namespace Go.Proofs.YtonpdbajoidigaaGreatDoor
open Go.RowKit Go.Shelf
set_option linter.unusedSimpArgs false
set_option linter.unusedVariables false

attribute [local go_sem] Oper.semAt_some

/-- The free lids of the first k entries. -/
def freeL (es : List (Int × Bool)) (k : Nat) : List Int := ((List.range k).filter fun i => decide (eA es i = 0)).map fun i : Nat => (i : Int) + 1
theorem freeL_yes {es : List (Int × Bool)} {k : Nat} (h : eA es k = 0) : freeL es (k + 1) = freeL es k ++ [(k : Int) + 1] := by
  simp [freeL, List.range_succ, List.filter_append, h]
theorem freeL_no {es : List (Int × Bool)} {k : Nat} (h : ¬ eA es k = 0) : freeL es (k + 1) = freeL es k := by
  simp [freeL, List.range_succ, List.filter_append, h]
theorem freeL_len (es : List (Int × Bool)) (k : Nat) : (freeL es k).length ≤ k := by
  simp only [freeL, List.length_map]
  exact Nat.le_trans (List.length_filter_le _ _) (by simp)
theorem freeL_prefix (es : List (Int × Bool)) (k m : Nat) (h : k ≤ m) : freeL es k <+: freeL es m := by
  induction m with
  | zero => rw [show k = 0 from by omega]; exact List.prefix_rfl
  | succ m ih =>
    by_cases e : k = m + 1
    · rw [e]; exact List.prefix_rfl
    · have h1 := ih (by omega)
      by_cases hf : eA es m = 0
      · rw [freeL_yes hf]; exact h1.trans (List.prefix_append _ _)
      · rw [freeL_no hf]; exact h1

set_option maxRecDepth 100000 in
set_option maxHeartbeats 2000000 in
theorem lids1_in (F : Fence) (n : Nat) (hfn : F.fn 175) (hro : F.round = none) (hn : 1 ≤ n) (l Bs n₀ b off len cap : Nat) (es : List (Int × Bool)) (hlen : len ≤ 2097152) (hb : b < n₀) (J Jx : List Int → World → Prop) (N0 : Nat) (hAb : AbidesFrom N0 J)
    (hY : ∀ pre x W, J pre W → pre.length < len → YieldAt F (n - 1) Tryz.prog l #[.int .i64 x] W fun e W' =>
      (e = .returned (.bool true) ∧ J (pre ++ [x]) W' ∧ Below n₀ W W') ∨ (e = .returned (.bool false) ∧ Jx (pre ++ [x]) W'))
    (W : World) (hn0 : n₀ ≤ W.heap.size) (hBs : W.cell? ⟨Bs, 0, none⟩ = some (.slice (some ⟨b, off, none⟩) len cap)) (hc : ∀ j, j < len → W.cell? ⟨b, off + j * 2, none⟩ = some (.int .i64 (eA es j)) ∧ W.cell? ⟨b, off + j * 2 + 1, none⟩ = some (.bool (eI es j))) (h0 : J [] W) :
    CallsIn F n Tryz.prog 175 #[.func (.yield l) #[] #[], .pointer (some ⟨Bs, 0, none⟩)] W fun e W' => (∃ v, e = .returned v) ∧
      ((∃ ys, ys = freeL es len ∧ J ys W') ∨ (∃ pre, pre <+: freeL es len ∧ Jx pre W')) := by
  refine callsIn_of_wp Tryz.func175 rfl hfn ?_ hro
  simp only [Tryz.ntmps175, List.size_toArray, List.length_cons, List.length_nil, Nat.reduceAdd, Nat.reduceSub, Array.replicate_succ, Array.replicate_zero, List.push_toArray, List.append_toArray, List.nil_append, List.cons_append]
  gi_wp2
  gi_loopw [7] (fun i wr => ∃ k : Nat, k ≤ len ∧ i = .int .i64 k ∧ J (freeL es k) wr ∧ Below n₀ W wr)
    (fun i _ => len - (intOf i).toNat)
  case atStart => exact ⟨0, Nat.zero_le _, rfl, h0, Below.refl _ _⟩
  case round =>
    obtain ⟨k, hk, rfl, hJs, hnx⟩ := hrel
    by_cases hlt : k < len
    · have c1 : wr.cell? ⟨b, off + k * 2, none⟩ = some (.int .i64 (eA es k)) := (hnx.cell (p := ⟨b, off + k * 2, none⟩) hb).trans (hc k hlt).1
      have c2 : wr.cell? ⟨b, off + k * 2 + 1, none⟩ = some (.bool (eI es k)) := (hnx.cell (p := ⟨b, off + k * 2 + 1, none⟩) hb).trans (hc k hlt).2
      have hJ2 : J (freeL es k) (wr.alloc (.cells #[.int .i64 (eA es k), .bool (eI es k)] 164)) := hAb _ _ _ none hJs (World.grownBy_alloc wr _ none) (fun r e => by cases e)
      have hB2 : Below n₀ W (wr.alloc (.cells #[.int .i64 (eA es k), .bool (eI es k)] 164)) := hnx.alloc (Nat.le_trans hn0 hnx.size) _
      by_cases hx : eA es k = 0
      · have HF : Hid (freeL es (k + 1) = freeL es k ++ [(k : Int) + 1]) := freeL_yes hx
        have u1 : (eA es k == 0) = true := by simp [hx]
        obtain ⟨fn, tmps, assign, body, hy, hR⟩ := hY _ ((k : Int) + 1) _ hJ2 (by have := freeL_len es k; omega)
        have HX : Hid (eA es k = 0) := hx
        clear hx hc
        gi_wp2
        refine hR.mono ?_
        rintro e W3 (⟨rfl, hJ3, hk3⟩ | ⟨rfl, hJx3⟩)
        · gi_wp2
          go_roundw
          case rel => exact ⟨k + 1, by omega, by simp, by rw [HF.out]; exact hJ3, hB2.trans hk3⟩
          case measure => simp [intOf]; omega
        · gi_wp2
          refine bodyPost_ret (results_none rfl _ _ _) rfl ?_
          exact ⟨⟨_, rfl⟩, .inr ⟨_, by rw [← HF.out]; exact freeL_prefix es (k + 1) len (by omega), hJx3⟩⟩
      · have HF : Hid (freeL es (k + 1) = freeL es k) := freeL_no hx
        have u1 : (eA es k == 0) = false := by simpa using hx
        clear hx hc
        gi_wp2
        refine ⟨fun _ h => (by cases h), ?_⟩
        gi_wp2
        go_roundw
        case rel => exact ⟨k + 1, by omega, by simp, by rw [HF.out]; exact hJ2, hB2⟩
        case measure => simp [intOf]; omega
    · obtain rfl : k = len := by omega
      gi_wp2
      go_end0
      exact ⟨⟨_, rfl⟩, .inl ⟨_, rfl, hJs⟩⟩

set_option maxRecDepth 100000 in
set_option maxHeartbeats 2000000 in
theorem lids1_zero (F : Fence) (n : Nat) (hfn : F.fn 175) (hro : F.round = none) (l Bs : Nat) (a : Option Addr) (cap : Nat) (J : List Int → World → Prop) (W : World) (hBs : W.cell? ⟨Bs, 0, none⟩ = some (.slice a 0 cap)) (h0 : J [] W) :
    CallsIn F n Tryz.prog 175 #[.func (.yield l) #[] #[], .pointer (some ⟨Bs, 0, none⟩)] W fun e W' => (∃ v, e = .returned v) ∧ J [] W' := by
  refine callsIn_of_wp Tryz.func175 rfl hfn ?_ hro
  simp only [Tryz.ntmps175, List.size_toArray, List.length_cons, List.length_nil, Nat.reduceAdd, Nat.reduceSub, Array.replicate_succ, Array.replicate_zero, List.push_toArray, List.append_toArray, List.nil_append, List.cons_append]
  gi_wp2
  gi_loopw [7] (fun i wr => i = .int .i64 0 ∧ wr = W) (fun _ _ => 0)
  case atStart => exact ⟨rfl, rfl⟩
  case round =>
    obtain ⟨rfl, rfl⟩ := hrel
    gi_wp2
    go_end0
    exact ⟨⟨_, rfl⟩, h0⟩

theorem lids_stops (F : Fence) (n : Nat) (hfn : F.fn 175) (hro : F.round = none) (hn : 1 ≤ n) (Bs n₀ : Nat) (a : Option Addr) (len cap : Nat) (es : List (Int × Bool)) (hlen : len ≤ 2097152) (w : World) (hBs : Bs < w.heap.size) (hn₀ : n₀ ≤ w.heap.size)
    (hc : w.cell? ⟨Bs, 0, none⟩ = some (.slice a len cap)) (hE : ERead w a len es) (hlow : ∀ g off, a = some ⟨g, off, none⟩ → 0 < len → g < n₀) :
    SeqStopsK F n Tryz.prog 175 #[.pointer (some ⟨Bs, 0, none⟩)] (fun x : Int => #[Value.int .i64 x]) (Below n₀) (fun ys => ys = freeL es len) (fun pre => pre <+: freeL es len) len w := fun l J Jx W hW hAb _ hY h0 => by
  have hc' := (hW.cell (p := ⟨Bs, 0, none⟩) hBs).trans hc
  rcases hE.2 with h | ⟨b, off, rfl, hcs⟩
  · subst h
    exact (lids1_zero F n hfn hro l Bs a cap J W hc' h0).mono fun e W' ⟨he, hj⟩ => ⟨he, .inl ⟨_, rfl, hj⟩⟩
  · by_cases h0' : len = 0
    · subst h0'
      exact (lids1_zero F n hfn hro l Bs _ cap J W hc' h0).mono fun e W' ⟨he, hj⟩ => ⟨he, .inl ⟨_, rfl, hj⟩⟩
    · have hb := hlow b off rfl (by omega)
      exact lids1_in F n hfn hro hn l Bs n₀ b off len cap es hlen hb J Jx W.heap.size hAb hY W (Nat.le_trans hn₀ hW.size) hc' (fun j hj => ⟨(hW.cell (p := ⟨b, off + j * 2, none⟩) (Nat.lt_of_lt_of_le hb hn₀)).trans (hcs j hj).1, (hW.cell (p := ⟨b, off + j * 2 + 1, none⟩) (Nat.lt_of_lt_of_le hb hn₀)).trans (hcs j hj).2⟩) h0

theorem freeLids_in (F : Fence) (n : Nat) (hfn : F.fn 141) (hro : F.round = none) (a : Option Addr) (len cap : Nat) (w : World) :
    CallsIn F n Tryz.prog 141 #[.slice a len cap] w fun e w' => e = .returned (.func (.func 175) #[] #[.pointer (some ⟨w.heap.size, 0, none⟩)]) ∧ w' = w.alloc (.cells #[.slice a len cap] 45) := by
  have hmf : ∀ (fn : Fn) (first cap : Array Value) (w : World), (Instr.makeFunc fn first cap).run Tryz.prog w = .ok (.func fn first cap) w := fun _ _ _ _ => rfl
  refine callsIn_of_wp Tryz.func141 rfl hfn ?_ hro
  simp only [Tryz.ntmps141, List.size_toArray, List.length_cons, List.length_nil, Nat.reduceAdd, Nat.reduceSub, Array.replicate_succ, Array.replicate_zero, List.push_toArray, List.append_toArray, List.nil_append, List.cons_append]
  gi_wp2
  go_ret
  exact ⟨rfl, rfl⟩
end Go.Proofs.YtonpdbajoidigaaGreatDoor

/-
  The program's FreeLids.
-/
namespace Go.Proofs.YtonpdbajoidigaaGreatDoor
open Go.RowKit Go.Shelf
set_option linter.unusedSimpArgs false
set_option linter.unusedVariables false

attribute [local go_sem] Oper.semAt_some

/-- What FreeLids answers. -/
def freeR (es : List (Int × Bool)) (len : Nat) (nn : Int) : List Int := if 0 ≤ nn ∧ nn ≤ ((freeL es len).length : Int) then (freeL es len).take nn.toNat else []

theorem freeR_full {es : List (Int × Bool)} {len : Nat} {nn : Int} (h : ((freeL es len).length : Int) = nn) : freeR es len nn = freeL es len := by
  unfold freeR
  rw [if_pos (by omega)]
  exact List.take_of_length_le (by omega)
theorem freeR_none {es : List (Int × Bool)} {len : Nat} {nn : Int} (h : ¬ ((freeL es len).length : Int) = nn) (hle : ((freeL es len).length : Int) ≤ max 0 nn) : freeR es len nn = [] := by
  unfold freeR
  by_cases h0 : 0 ≤ nn
  · rw [if_neg (by omega)]
  · rw [if_neg (by omega)]
theorem freeR_neg {es : List (Int × Bool)} {len : Nat} {nn : Int} (h : nn < 0) : freeR es len nn = [] := by
  unfold freeR
  rw [if_neg (by omega)]
theorem freeR_stop {es : List (Int × Bool)} {len : Nat} {nn : Int} {pre : List Int} (hp : pre <+: freeL es len) (h : (pre.dropLast.length : Int) = nn) : freeR es len nn = pre.dropLast := by
  have hq : pre.dropLast <+: freeL es len := (List.dropLast_prefix pre).trans hp
  have hl := hq.length_le
  unfold freeR
  rw [if_pos (by omega), show nn.toNat = pre.dropLast.length from by omega]
  exact (List.prefix_iff_eq_take.1 hq).symm
theorem owns_baseL {w : World} {B B' e sz n : Nat} {s : Value} {xs : List Value} (h : w.ownsRow B e sz s n xs) (hB : B' ≤ B) : w.ownsRow B' e sz s n xs := by
  refine ⟨h.1, h.2.imp id ?_⟩
  rintro ⟨g, cap, cur, e1, hg, rest⟩
  exact ⟨g, cap, cur, e1, by omega, rest⟩
theorem owns_shapeL {w : World} {B e sz n : Nat} {v : Value} {xs : List Value} (h : w.ownsRow B e sz v n xs) : ∃ a c, v = .slice a n c := by
  rcases h.2 with ⟨rfl, h0⟩ | ⟨g, cap, cur, rfl, _⟩
  · exact ⟨none, 0, by rw [h0]⟩
  · exact ⟨_, _, rfl⟩

set_option maxRecDepth 100000 in
set_option maxHeartbeats 4000000 in
theorem freeLids_fence (F : Fence) (n : Nat) (h49 : F.fn 80) (h83 : F.fn 141) (h95 : F.fn 175) (hro : F.round = none) (hn : 3 ≤ n) (a : Option Addr) (len ca : Nat) (es : List (Int × Bool)) (nn : Int) (w : World) (ha : ERead w a len es) (hlen : len ≤ 2097152) :
    CallsIn F n Tryz.prog 80 #[.slice a len ca, .int .i64 nn] w fun e W' => ∃ v, e = .returned v ∧ W'.ownsRow w.heap.size 2 1 v (freeR es len nn).length ((freeR es len nn).map (Value.int .i64)) ∧ Below w.heap.size w W' := by
  have h1 : 1 ≤ n := by omega
  obtain ⟨i0, hi, hz0, hz1, hz2⟩ := info_parts info2
  have HA : Hid (ERead w a len es) := ha
  have HLow : Hid (∀ g off, a = some ⟨g, off, none⟩ → 0 < len → g < w.heap.size) := by
    show ∀ g off, a = some ⟨g, off, none⟩ → 0 < len → g < w.heap.size
    intro g off e hl
    rcases ha.2 with h | ⟨g', off', e', hc⟩
    · omega
    · rw [e'] at e
      injection e with e
      injection e with e1 e2 e3
      subst e1
      exact World.block_lt_of_cell? w _ (hc 0 hl).1
  clear ha
  refine callsIn_of_wp_marks Tryz.func80 rfl h49 ?_ hro
  simp only [Tryz.ntmps80, List.size_toArray, List.length_cons, List.length_nil, Nat.reduceAdd, Nat.reduceSub, Array.replicate_succ, Array.replicate_zero, List.push_toArray, List.append_toArray, List.nil_append, List.cons_append]
  gi_wp2_with (gi_at_call 141; refine (freeLids_in F (n - 1) h83 hro _ _ _ _).mono ?_; rintro e w' ⟨rfl, rfl⟩)
  have hB0 : Below w.heap.size w ((((w.alloc (.cells #[.int .i64 nn] 2)).alloc (.cells #[] 2)).alloc (.cells #[.slice (some ⟨w.heap.size + 1, 0, none⟩) 0 0] 46)).alloc (.cells #[.slice a len ca] 45)) := ((((Below.refl _ w).alloc (Nat.le_refl _) _).alloc (by simp) _).alloc (by simp; omega) _).alloc (by simp; omega) _
  have bN : Boxed ((((w.alloc (.cells #[.int .i64 nn] 2)).alloc (.cells #[] 2)).alloc (.cells #[.slice (some ⟨w.heap.size + 1, 0, none⟩) 0 0] 46)).alloc (.cells #[.slice a len ca] 45)) w.heap.size 2 (.int .i64 nn) := (((Boxed.new w 2 (.int .i64 nn)).alloc _).alloc _).alloc _
  have bL : Boxed ((((w.alloc (.cells #[.int .i64 nn] 2)).alloc (.cells #[] 2)).alloc (.cells #[.slice (some ⟨w.heap.size + 1, 0, none⟩) 0 0] 46)).alloc (.cells #[.slice a len ca] 45)) (w.heap.size + 1 + 1) 46 (.slice (some ⟨w.heap.size + 1, 0, none⟩) 0 0) := by
    have := (Boxed.new ((w.alloc (.cells #[.int .i64 nn] 2)).alloc (.cells #[] 2)) 46 (.slice (some ⟨w.heap.size + 1, 0, none⟩) 0 0)).alloc (.cells #[.slice a len ca] 45)
    simpa using this
  have bT : Boxed ((((w.alloc (.cells #[.int .i64 nn] 2)).alloc (.cells #[] 2)).alloc (.cells #[.slice (some ⟨w.heap.size + 1, 0, none⟩) 0 0] 46)).alloc (.cells #[.slice a len ca] 45)) (w.heap.size + 1 + 1 + 1) 45 (.slice a len ca) := by
    have := Boxed.new (((w.alloc (.cells #[.int .i64 nn] 2)).alloc (.cells #[] 2)).alloc (.cells #[.slice (some ⟨w.heap.size + 1, 0, none⟩) 0 0] 46)) 45 (.slice a len ca)
    simpa using this
  have rE : ((((w.alloc (.cells #[.int .i64 nn] 2)).alloc (.cells #[] 2)).alloc (.cells #[.slice (some ⟨w.heap.size + 1, 0, none⟩) 0 0] 46)).alloc (.cells #[.slice a len ca] 45)).ownsRow (w.heap.size + 1) 2 1 (.slice (some ⟨w.heap.size + 1, 0, none⟩) 0 0) 0 [] := by
    have h0 : ((w.alloc (.cells #[.int .i64 nn] 2)).alloc (.cells #[] 2)).heap[w.heap.size + 1]? = some (.cells #[] 2 (0, 0)) := by
      have := heap_alloc_new (w.alloc (.cells #[.int .i64 nn] 2)) (.cells #[] 2)
      simpa using this
    have h2 : ((w.alloc (.cells #[.int .i64 nn] 2)).alloc (.cells #[] 2)).ownsRow (w.heap.size + 1) 2 1 (.slice (some ⟨w.heap.size + 1, 0, none⟩) 0 0) 0 [] := ⟨rfl, .inr ⟨_, 0, #[], rfl, Nat.le_refl _, h0, Nat.le_refl _, Nat.zero_le _, rfl, rfl⟩⟩
    exact (h2.alloc _).alloc _
  have hS := lids_stops F (n - 1) h95 hro (by omega) (w.heap.size + 1 + 1 + 1) w.heap.size a len ca es hlen _ bT.lt hB0.size bT.cell (HA.out.below hB0) HLow.out
  have hsz : w.heap.size + 4 ≤ ((((w.alloc (.cells #[.int .i64 nn] 2)).alloc (.cells #[] 2)).alloc (.cells #[.slice (some ⟨w.heap.size + 1, 0, none⟩) 0 0] 46)).alloc (.cells #[.slice a len ca] 45)).heap.size := by simp
  generalize hW0 : ((((w.alloc (.cells #[.int .i64 nn] 2)).alloc (.cells #[] 2)).alloc (.cells #[.slice (some ⟨w.heap.size + 1, 0, none⟩) 0 0] 46)).alloc (.cells #[.slice a len ca] 45)) = W0 at *
  clear hW0 bT
  refine wpIn_rangeFunc_ownG hro h1 (gf := 175) (lb := #[.pointer (some ⟨w.heap.size + 1 + 1 + 1, 0, none⟩)]) rfl h95 (enters_of Tryz.func175 (by kernel_rfl) rfl)
    hS belowK_t (belowK_b (by omega)) (Below.refl _ _) (fun _ => rfl)
    (fun pre W => (∃ v, Boxed W (w.heap.size + 1 + 1) 46 v ∧ W.ownsRow (w.heap.size + 1) 2 1 v pre.length (pre.map (Value.int .i64)) ∧ True) ∧ (Boxed W w.heap.size 2 (.int .i64 nn) ∧ (((pre.length : Int) ≤ max 0 nn) ∧ Below w.heap.size w W)))
    (fun c pre W => (∃ v, Boxed W (w.heap.size + 1 + 1) 46 v ∧ W.ownsRow (w.heap.size + 1) 2 1 v pre.dropLast.length (pre.dropLast.map (Value.int .i64)) ∧ c = .exit 0) ∧ (Boxed W w.heap.size 2 (.int .i64 nn) ∧ ((nn ≤ (pre.dropLast.length : Int) ∧ (pre.dropLast.length : Int) ≤ max 0 nn) ∧ Below w.heap.size w W)))
    (OwnFrom.and (Own.from (holdsRow_own (w.heap.size + 1) (w.heap.size + 1 + 1) 46 2 1 (fun pre : List Int => pre.length) (fun pre => pre.map (Value.int .i64)) (fun _ _ => True)) _) (OwnFrom.and (Own.from (boxed_own w.heap.size 2 (fun _ => .int .i64 nn)) _) (OwnFrom.and (ownFrom_pure _ (fun pre : List Int => (pre.length : Int) ≤ max 0 nn)) (ownFrom_below (Nat.le_refl _) (by omega)))))
    (fun c => OwnFrom.and (Own.from (holdsRow_own (w.heap.size + 1) (w.heap.size + 1 + 1) 46 2 1 (fun pre : List Int => pre.dropLast.length) (fun pre => pre.dropLast.map (Value.int .i64)) (fun _ _ => c = .exit 0)) _) (OwnFrom.and (Own.from (boxed_own w.heap.size 2 (fun _ => .int .i64 nn)) _) (OwnFrom.and (ownFrom_pure _ (fun pre : List Int => nn ≤ (pre.dropLast.length : Int) ∧ (pre.dropLast.length : Int) ≤ max 0 nn)) (ownFrom_below (Nat.le_refl _) (by omega)))))
    ⟨⟨_, bL, rE, trivial⟩, bN, by show (0 : Int) ≤ max 0 nn; omega, hB0⟩
    (fun x => { tmps := #[.slice a len ca, .int .i64 nn, undef, .pointer (some ⟨w.heap.size, 0, none⟩), .slice none 0 0, .pointer (some ⟨w.heap.size + 1 + 1, 0, none⟩), .int .i64 x, .slice (some ⟨w.heap.size + 1, 0, none⟩) 0 0, .slice a len ca, .func (.func 175) #[] #[.pointer (some ⟨w.heap.size + 1 + 1 + 1, 0, none⟩)], .int .i64 x, undef, undef, undef, undef, undef, undef, undef, undef, undef, undef, undef, undef, undef, undef], defers := [] }) ?assign ?body ?done ?stop
  case assign =>
    intro l x W K hK
    gi_wp2
    exact hK
  case body =>
    rintro l pre x W ⟨⟨v, hv, hrow, _⟩, hbn, hle, hB⟩ hlt
    have hc := hv.cell
    have hcn := hbn.cell
    obtain ⟨av, cv, rfl⟩ := owns_shapeL hrow
    have sB := hB.size
    have sv := hv.lt
    by_cases hge : nn ≤ (pre.length : Int)
    · have e : (pre ++ [x]).dropLast = pre := by simp
      gi_wp2
      exact ⟨KeepsFrom.refl _ _, ⟨_, hv, by rw [e]; exact hrow, rfl⟩, hbn, ⟨by rw [e]; exact hge, by rw [e]; exact hle⟩, hB⟩
    · have hlt2 : (pre.length : Int) < nn := by omega
      have hle2 : ((pre ++ [x]).length : Int) ≤ max 0 nn := by rw [List.length_append]; simp; omega
      gi_wp2_with (gi_at_builtin; refine wpListIn_append_own _ rfl _ _ 46 rfl (w.heap.size + 1) 2 i0 (.int .i64 0) 1 8 Tryz.underlying46 hi hz0 hz1 hz2 rfl (by decide) _ _ _ rfl (hrow.alloc _) ⟨W.heap.size, 0, none⟩ 1 1 [.int .i64 x] rfl rfl (cell_one_new _ _ _) (by simp [Value.oneCell']) (by unfold maxLen; omega) (by omega) (by simp; omega) ?_; intro v' w1 hown' hgrow _; obtain ⟨g', cap', rfl⟩ := ownsRow_succ hown'; obtain ⟨hv1, hv2, hr2, hk2, hb2⟩ := hv.appended (by decide) hrow (by omega) (by omega) hown' hgrow; have hc1 := hv1.cell; have hf1 := hv1.frozen)
      exact ⟨hk2.from _, hb2.mono (by omega), ⟨_, hv2, by simpa using hr2⟩, (hb2.block w.heap.size (by omega)).trans hbn, hle2, hB.trans (hb2.mono (by omega))⟩
  case done =>
    rintro D ys W hD rfl ⟨⟨v, hv, hrow, _⟩, hbn, hle, hB⟩ hK
    have hc := hv.cell
    have hcn := hbn.cell
    obtain ⟨av, cv, rfl⟩ := owns_shapeL hrow
    have lD := (Array.getElem?_eq_some_iff.1 hK).1
    have hrow' := owns_baseL hrow (B' := w.heap.size) (by omega)
    by_cases heq : ((freeL es len).length : Int) = nn
    · have u1 : (((freeL es len).length : Int) != nn) = false := by rw [heq]; simp
      have HR : Hid (freeR es len nn = freeL es len) := freeR_full heq
      have HE : Hid (((freeL es len).length : Int) = nn) := heq
      clear heq
      gi_wp2
      refine ⟨by simp, .inl ⟨_, _, rfl, run_takeDeferred hK, ?_⟩⟩
      exact ⟨_, results_tmp rfl _ _ _, _, rfl, by rw [HR.out]; exact ownsRow_putObj hrow' _ hK rfl, hB.trans (belowK_b (w := w) (Nat.le_refl _) W D _ _ (by omega) hK rfl rfl)⟩
    · have u1 : (((freeL es len).length : Int) != nn) = true := by simpa using heq
      have HR : Hid (freeR es len nn = []) := freeR_none heq hle
      have hK' : ∀ o, (W.alloc o).heap[D]? = some (.deferred (some [])) := fun o => (Below.heap_alloc W o D lD).trans hK
      have rN : (W.alloc (.cells #[] 2)).ownsRow w.heap.size 2 1 (.slice (some ⟨W.heap.size, 0, none⟩) 0 0) 0 [] := ⟨rfl, .inr ⟨_, 0, #[], rfl, hB.size, heap_alloc_new W _, Nat.le_refl _, Nat.zero_le _, rfl, rfl⟩⟩
      have hBN := fun o => hB.alloc hB.size o
      clear heq
      gi_wp2
      refine ⟨by simp, .inl ⟨_, _, rfl, run_takeDeferred (hK' _), ?_⟩⟩
      exact ⟨_, results_tmp rfl _ _ _, _, rfl, by rw [HR.out]; exact ownsRow_putObj rN _ (hK' _) rfl, (hBN _).trans (belowK_b (w := w) (Nat.le_refl _) _ D _ _ (by omega) (hK' _) rfl rfl)⟩
  case stop =>
    rintro D c pre W hD hpre ⟨⟨v, hv, hrow, rfl⟩, hbn, ⟨hge, hle⟩, hB⟩ hK
    obtain ⟨L, hL⟩ : ∃ L, pre.dropLast = L := ⟨_, rfl⟩
    rw [hL] at hrow hge hle
    have HS : Hid ((L.length : Int) = nn → freeR es len nn = L) := fun h => by rw [← hL]; exact freeR_stop hpre (by rw [hL]; exact h)
    clear hL hpre
    have hc := hv.cell
    have hcn := hbn.cell
    obtain ⟨av, cv, rfl⟩ := owns_shapeL hrow
    have lD := (Array.getElem?_eq_some_iff.1 hK).1
    have hrow' := owns_baseL hrow (B' := w.heap.size) (by omega)
    by_cases heq : (L.length : Int) = nn
    · have u1 : ((L.length : Int) != nn) = false := by rw [heq]; simp
      have HR : Hid (freeR es len nn = L) := HS.out heq
      have HE : Hid ((L.length : Int) = nn) := heq
      clear heq
      gi_wp2
      refine ⟨by simp, .inl ⟨_, _, rfl, run_takeDeferred hK, ?_⟩⟩
      exact ⟨_, results_tmp rfl _ _ _, _, rfl, by rw [HR.out]; exact ownsRow_putObj hrow' _ hK rfl, hB.trans (belowK_b (w := w) (Nat.le_refl _) W D _ _ (by omega) hK rfl rfl)⟩
    · have u1 : ((L.length : Int) != nn) = true := by simpa using heq
      have HR : Hid (freeR es len nn = []) := freeR_neg (by omega)
      have hK' : ∀ o, (W.alloc o).heap[D]? = some (.deferred (some [])) := fun o => (Below.heap_alloc W o D lD).trans hK
      have rN : (W.alloc (.cells #[] 2)).ownsRow w.heap.size 2 1 (.slice (some ⟨W.heap.size, 0, none⟩) 0 0) 0 [] := ⟨rfl, .inr ⟨_, 0, #[], rfl, hB.size, heap_alloc_new W _, Nat.le_refl _, Nat.zero_le _, rfl, rfl⟩⟩
      have hBN := fun o => hB.alloc hB.size o
      clear heq
      gi_wp2
      refine ⟨by simp, .inl ⟨_, _, rfl, run_takeDeferred (hK' _), ?_⟩⟩
      exact ⟨_, results_tmp rfl _ _ _, _, rfl, by rw [HR.out]; exact ownsRow_putObj rN _ (hK' _) rfl, (hBN _).trans (belowK_b (w := w) (Nat.le_refl _) _ D _ _ (by omega) (hK' _) rfl rfl)⟩

theorem freeLids_impl (a : Option Addr) (len ca : Nat) (es : List (Int × Bool)) (nn : Int) (w : World) (ha : ERead w a len es) (hlen : len ≤ 2097152) :
    Calls Tryz.prog 80 #[.slice a len ca, .int .i64 nn] w fun e W' => ∃ v, e = .returned v ∧ W'.ownsRow w.heap.size 2 1 v (freeR es len nn).length ((freeR es len nn).map (Value.int .i64)) ∧ Below w.heap.size w W' :=
  callsIn_wide.1 (freeLids_fence Fence.wide 3 trivial trivial trivial rfl (by omega) a len ca es nn w ha hlen)
end Go.Proofs.YtonpdbajoidigaaGreatDoor
