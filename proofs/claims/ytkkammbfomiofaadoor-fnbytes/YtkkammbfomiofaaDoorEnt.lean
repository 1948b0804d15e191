/-
  Lists of entries: szEntryS, toEntry, toEntryS, eqEntry, eqEntryS, markEntryS.
-/
import Derived.Test.YtkkammbfomiofaaDoorGb
import Derived.Deep.RegionWith
namespace Go.Proofs.YtkkammbfomiofaaDoor
open Go.RowKit
set_option linter.unusedSimpArgs false
set_option linter.unusedVariables false

def eA (es : List (Int × Bool)) (i : Nat) : Int := (es[i]?.getD (0, false)).1
def eI (es : List (Int × Bool)) (i : Nat) : Bool := (es[i]?.getD (0, false)).2
def ERead (w : World) (a : Option Addr) (m : Nat) (es : List (Int × Bool)) : Prop :=
  es.length = m ∧ (m = 0 ∨ ∃ g off, a = some ⟨g, off, none⟩ ∧ ∀ i, i < m → w.cell? ⟨g, off + i * 2, none⟩ = some (.int .i64 (eA es i)) ∧ w.cell? ⟨g, off + i * 2 + 1, none⟩ = some (.bool (eI es i)))
/-- .. that may be written, in a block of G. -/
def EOwn (G : Nat → Prop) (w : World) (a : Option Addr) (m : Nat) (es : List (Int × Bool)) : Prop :=
  es.length = m ∧ (m = 0 ∨ ∃ g off, a = some ⟨g, off, none⟩ ∧ G g ∧ ∀ i, i < m → (w.cell? ⟨g, off + i * 2, none⟩ = some (.int .i64 (eA es i)) ∧ w.frozen? ⟨g, off + i * 2, none⟩ = false) ∧ w.cell? ⟨g, off + i * 2 + 1, none⟩ = some (.bool (eI es i)) ∧ w.frozen? ⟨g, off + i * 2 + 1, none⟩ = false)
theorem EOwn.read {G : Nat → Prop} {w : World} {a : Option Addr} {m : Nat} {es : List (Int × Bool)} (h : EOwn G w a m es) : ERead w a m es :=
  ⟨h.1, h.2.imp id fun ⟨g, off, e, _, hc⟩ => ⟨g, off, e, fun i hi => ⟨(hc i hi).1.1, (hc i hi).2.1⟩⟩⟩
theorem EOwn.mono {G G' : Nat → Prop} {w : World} {a : Option Addr} {m : Nat} {es : List (Int × Bool)} (h : EOwn G w a m es) (hG : ∀ g, G g → G' g) : EOwn G' w a m es :=
  ⟨h.1, h.2.imp id fun ⟨g, off, e, hg, hc⟩ => ⟨g, off, e, hG g hg, hc⟩⟩
theorem ERead.below {w w' : World} {a : Option Addr} {m : Nat} {es : List (Int × Bool)} (h : ERead w a m es) (hb : Below w.heap.size w w') : ERead w' a m es := by
  refine ⟨h.1, ?_⟩
  by_cases hm : m = 0
  · exact .inl hm
  rcases h.2 with h0 | ⟨g, off, e, hc⟩
  · exact .inl h0
  · refine .inr ⟨g, off, e, fun i hi => ?_⟩
    rw [hb.cell (World.block_lt_of_cell? w _ (hc i hi).1), hb.cell (World.block_lt_of_cell? w _ (hc i hi).2)]
    exact hc i hi
theorem EOwn.kept {G G' : Nat → Prop} {w w' : World} {a : Option Addr} {m : Nat} {es : List (Int × Bool)} (h : EOwn G w a m es) (hk : Kept G' w w') (hd : ∀ g, G g → ¬ G' g) : EOwn G w' a m es := by
  refine ⟨h.1, ?_⟩
  by_cases hm : m = 0
  · exact .inl hm
  rcases h.2 with h0 | ⟨g, off, e, hg, hc⟩
  · exact .inl h0
  · refine .inr ⟨g, off, e, hg, fun i hi => ?_⟩
    have hb := hk.block g (World.block_lt_of_cell? w _ (hc i hi).2.1) (hd g hg)
    rw [World.cell?_of_block (a := ⟨g, off + i * 2, none⟩) hb, World.frozen?_of_block (a := ⟨g, off + i * 2, none⟩) hb, World.cell?_of_block (a := ⟨g, off + i * 2 + 1, none⟩) hb, World.frozen?_of_block (a := ⟨g, off + i * 2 + 1, none⟩) hb]
    exact hc i hi
theorem EOwn.below {G : Nat → Prop} {w w' : World} {a : Option Addr} {m : Nat} {es : List (Int × Bool)} (h : EOwn G w a m es) (hb : Below w.heap.size w w') : EOwn G w' a m es :=
  h.kept (Kept.of_below hb fun _ => False) fun _ _ => id

theorem e_take_succ {xs ys : List (Int × Bool)} {k : Nat} (h : k < xs.length) (h' : k < ys.length) (e : xs.take k = ys.take k) (e' : eA xs k = eA ys k ∧ eI xs k = eI ys k) : xs.take (k + 1) = ys.take (k + 1) := by
  rw [List.take_succ_eq_append_getElem h, List.take_succ_eq_append_getElem h', e]
  simp only [eA, eI, List.getElem?_eq_getElem h, List.getElem?_eq_getElem h', Option.getD_some] at e'
  rw [Prod.ext e'.1 e'.2]
theorem e_ne {xs ys : List (Int × Bool)} {k : Nat} (e' : decide (eA xs k = eA ys k ∧ eI xs k = eI ys k) = false) : decide (xs = ys) = false := by
  simp only [decide_eq_false_iff_not] at e' ⊢
  intro e; subst e; exact e' ⟨rfl, rfl⟩

/-- n entries from the head of block g on hold f; all may be written. -/
def ECells (w : World) (g off n : Nat) (f : Nat → Int × Bool) : Prop :=
  ∀ i, i < n → (w.cell? ⟨g, off + i * 2, none⟩ = some (.int .i64 (f i).1) ∧ w.frozen? ⟨g, off + i * 2, none⟩ = false) ∧ w.cell? ⟨g, off + i * 2 + 1, none⟩ = some (.bool (f i).2) ∧ w.frozen? ⟨g, off + i * 2 + 1, none⟩ = false
theorem ECells.set {w : World} {g off n : Nat} {f : Nat → Int × Bool} (h : ECells w g off n f) (j : Nat) (hj : j < n) (x : Int) (b : Bool) (f' : Nat → Int × Bool) (hf : ∀ i, i < n → f' i = if i = j then (x, b) else f i) :
    ECells ((w.setCell ⟨g, off + j * 2, none⟩ (.int .i64 x)).setCell ⟨g, off + j * 2 + 1, none⟩ (.bool b)) g off n f' := by
  intro i hi
  obtain ⟨⟨c1, c2⟩, c3, c4⟩ := h i hi
  simp only [World.frozen?_setCell]
  rw [hf i hi]
  by_cases e : i = j
  · subst e
    rw [if_pos rfl]
    refine ⟨⟨?_, c2⟩, ?_, c4⟩
    · rw [World.cell?_setCell_other (h := by intro e; injection e with e1 e2 e3; omega)]
      exact World.cell?_setCell_same _ _ _ c1
    · exact World.cell?_setCell_same _ _ _ (by rw [World.cell?_setCell_other (h := by intro e; injection e with e1 e2 e3; omega)]; exact c3)
  · rw [if_neg e]
    refine ⟨⟨?_, c2⟩, ?_, c4⟩
    · rw [World.cell?_setCell_other (h := by intro e; injection e with e1 e2 e3; omega), World.cell?_setCell_other (h := by intro e; injection e with e1 e2 e3; omega)]
      exact c1
    · rw [World.cell?_setCell_other (h := by intro e; injection e with e1 e2 e3; omega), World.cell?_setCell_other (h := by intro e; injection e with e1 e2 e3; omega)]
      exact c3
theorem ECells.own {G : Nat → Prop} {w : World} {g off n : Nat} {f : Nat → Int × Bool} {es : List (Int × Bool)} (h : ECells w g off n f) (hg : G g) (hl : es.length = n) (hf : ∀ i, i < n → f i = (eA es i, eI es i)) : EOwn G w (some ⟨g, off, none⟩) n es :=
  ⟨hl, .inr ⟨g, off, rfl, hg, fun i hi => by have := h i hi; rw [hf i hi] at this; exact this⟩⟩
theorem EOwn.cells {G : Nat → Prop} {w : World} {g off n : Nat} {es : List (Int × Bool)} (hc : ∀ i, i < n → (w.cell? ⟨g, off + i * 2, none⟩ = some (.int .i64 (eA es i)) ∧ w.frozen? ⟨g, off + i * 2, none⟩ = false) ∧ w.cell? ⟨g, off + i * 2 + 1, none⟩ = some (.bool (eI es i)) ∧ w.frozen? ⟨g, off + i * 2 + 1, none⟩ = false) : ECells w g off n (fun i => (eA es i, eI es i)) := hc
theorem step_e {β : Type} (k i : Nat) (p q : Nat → β) : (if i < k + 1 then p i else q i) = if i = k then p k else if i < k then p i else q i := by
  by_cases e : i = k
  · subst e; simp
  · rw [if_neg e]; by_cases h : i < k
    · rw [if_pos h, if_pos (by omega)]
    · rw [if_neg h, if_neg (by omega)]

theorem info38 : (Tryd.prog.info? 38).map (fun i => (i.zero, i.size, i.bytes)) = some (some (.agg #[.int .i64 0, .bool false]), 2, 16) := by kernel_rfl
theorem made_twoE (x y : Value) (n i : Nat) (h : i < n) : (madeCells #[x, y] (n * 2)).toList[i * 2]? = some x ∧ (madeCells #[x, y] (n * 2)).toList[i * 2 + 1]? = some y := by
  have h1 : i * 2 < n * 2 := by omega
  have h2 : i * 2 + 1 < n * 2 := by omega
  constructor
  · simp [madeCells, h1]
  · simp [madeCells, h2, Nat.add_mod]
theorem made_ecells {w1 : World} {B g n e : Nat} (h : w1.ownsRow B e 2 (.slice (some ⟨g, 0, none⟩) n n) n (madeCells #[.int .i64 0, .bool false] (n * 2)).toList) : ECells w1 g 0 n (fun _ => (0, false)) := by
  intro i hi
  obtain ⟨m1, m2⟩ := made_twoE (.int .i64 0) (.bool false) n i hi
  simp only [Nat.zero_add]
  refine ⟨⟨?_, h.frozenAt _⟩, ?_, h.frozenAt _⟩
  · rw [h.cellAt _ (by omega), m1]
  · rw [h.cellAt _ (by omega), m2]

end Go.Proofs.YtkkammbfomiofaaDoor
