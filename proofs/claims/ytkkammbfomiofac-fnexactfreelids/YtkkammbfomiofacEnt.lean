/-
  Lists of entries: szEntryS, toEntry, toEntryS, eqEntry, eqEntryS, markEntryS.
-/
import Derived.Test.YtkkammbfomiofacPut
import Derived.Deep.RegionWith
namespace Go.Proofs.Ytkkammbfomiofac
open Go.RowKit
set_option linter.unusedSimpArgs false
set_option linter.unusedVariables false

def eA (es : List (Int × Bool)) (i : Nat) : Int := (es[i]?.getD (0, false)).1
def eI (es : List (Int × Bool)) (i : Nat) : Bool := (es[i]?.getD (0, false)).2
def ERead (w : World) (a : Option Addr) (m : Nat) (es : List (Int × Bool)) : Prop :=
  es.length = m ∧ (m = 0 ∨ ∃ g off, a = some ⟨g, off, none⟩ ∧ ∀ i, i < m → w.cell? ⟨g, off + i * 2, none⟩ = some (.int .i64 (eA es i)) ∧ w.cell? ⟨g, off + i * 2 + 1, none⟩ = some (.bool (eI es i)))
/-- .. that may be written, in a block of G. -/
def EOwn (G : Nat → Prop) (w : World) (a : Option Addr) (m : Nat) (es : List (Int × Bool)) : Prop :=
  es.length = m ∧ (m = 0 ∨ ∃ g off, a = some ⟨g, off, none⟩ ∧ G g ∧ ∀ i, i < m → (w.cell? ⟨g, off + i * 2, none⟩ = some (.int .i64 (eA es i)) ∧ w.frozen? ⟨g, off + i * 2, none⟩ = false) ∧ w.cell? ⟨g, off + i * 2 + 1, none⟩ = some (.bool (eI es i)) ∧ w.frozen? ⟨g, off + i * 2 + 1, none⟩ = false)
theorem EOwn.read {G : Nat → Prop} {w : World} {a : Option Addr} {m : Nat} {es : List (Int × Bool)} (h : EOwn G w a m es) : ERead w a m es :=
  ⟨h.1, h.2.imp id fun ⟨g, off, e, _, hc⟩ => ⟨g, off, e, fun i hi => ⟨(hc i hi).1.1, (hc i hi).2.1⟩⟩⟩
theorem EOwn.mono {G G' : Nat → Prop} {w : World} {a : Option Addr} {m : Nat} {es : List (Int × Bool)} (h : EOwn G w a m es) (hG : ∀ g, G g → G' g) : EOwn G' w a m es :=
  ⟨h.1, h.2.imp id fun ⟨g, off, e, hg, hc⟩ => ⟨g, off, e, hG g hg, hc⟩⟩
theorem ERead.below {w w' : World} {a : Option Addr} {m : Nat} {es : List (Int × Bool)} (h : ERead w a m es) (hb : Below w.heap.size w w') : ERead w' a m es := by
  refine ⟨h.1, ?_⟩
  by_cases hm : m = 0
  · exact .inl hm
  rcases h.2 with h0 | ⟨g, off, e, hc⟩
  · exact .inl h0
  · refine .inr ⟨g, off, e, fun i hi => ?_⟩
    rw [hb.cell (World.block_lt_of_cell? w _ (hc i hi).1), hb.cell (World.block_lt_of_cell? w _ (hc i hi).2)]
    exact hc i hi
theorem EOwn.kept {G G' : Nat → Prop} {w w' : World} {a : Option Addr} {m : Nat} {es : List (Int × Bool)} (h : EOwn G w a m es) (hk : Kept G' w w') (hd : ∀ g, G g → ¬ G' g) : EOwn G w' a m es := by
  refine ⟨h.1, ?_⟩
  by_cases hm : m = 0
  · exact .inl hm
  rcases h.2 with h0 | ⟨g, off, e, hg, hc⟩
  · exact .inl h0
  · refine .inr ⟨g, off, e, hg, fun i hi => ?_⟩
    have hb := hk.block g (World.block_lt_of_cell? w _ (hc i hi).2.1) (hd g hg)
    rw [World.cell?_of_block (a := ⟨g, off + i * 2, none⟩) hb, World.frozen?_of_block (a := ⟨g, off + i * 2, none⟩) hb, World.cell?_of_block (a := ⟨g, off + i * 2 + 1, none⟩) hb, World.frozen?_of_block (a := ⟨g, off + i * 2 + 1, none⟩) hb]
    exact hc i hi
theorem EOwn.below {G : Nat → Prop} {w w' : World} {a : Option Addr} {m : Nat} {es : List (Int × Bool)} (h : EOwn G w a m es) (hb : Below w.heap.size w w') : EOwn G w' a m es :=
  h.kept (Kept.of_below hb fun _ => False) fun _ _ => id

theorem szEntryS_any (a : Option Addr) (n ca : Nat) (l : Int) (w : World) (hn : (n : Int) ≤ 9223372036854775807) (h0 : 0 ≤ l) (h1 : l ≤ 1048576) :
    Calls Try.prog 31 #[.slice a n ca, .int .i64 l] w fun e w' => e = .returned (.int .i64 (if l - n < 0 then -1 else l - n)) ∧ w' = w := by
  by_cases h : l - (n : Int) < 0
  · rw [if_pos h]
    go_enter Try.func31, Try.ntmps31
    go_wp2
    go_ret
    exact ⟨rfl, rfl⟩
  · rw [if_neg h]
    go_enter Try.func31, Try.ntmps31
    go_wp2
    go_ret
    exact ⟨rfl, rfl⟩

theorem toEntry_any (x : Int) (b : Bool) (w : World) :
    Calls Try.prog 68 #[.agg #[.int .i64 x, .bool b]] w fun e w' => e = .returned (.agg #[.int .i64 x, .bool b]) ∧ Below w.heap.size w w' := by
  go_enter Try.func68, Try.ntmps68
  go_wp2
  refine bodyPost_ret (v := .agg #[.int .i64 x, .bool b]) (by simp [results, Try.results68, go_sem]) rfl ?_
  refine ⟨rfl, ?_⟩
  exact ((((Below.refl _ _).alloc (Nat.le_refl _) _).alloc (by simp) _).alloc (by simp; omega) _)

set_option maxHeartbeats 1000000 in
theorem eqEntry_any (x y : Int) (b c : Bool) (w : World) :
    Calls Try.prog 70 #[.agg #[.int .i64 x, .bool b], .agg #[.int .i64 y, .bool c]] w fun e w' => e = .returned (.bool (decide (x = y ∧ b = c))) ∧ Below w.heap.size w w' := by
  by_cases h : x = y
  · subst h
    have ht : (x != x) = false := by simp
    cases b <;> cases c
    all_goals
      go_enter Try.func70, Try.ntmps70
      go_wp2
      go_ret
      exact ⟨ret_boolB (by simp), ((Below.refl _ _).alloc (Nat.le_refl _) _).alloc (by simp) _⟩
  · have ht : (x != y) = true := by simpa using h
    have HF : Hid (decide (x = y ∧ b = c) = false) := by show _ = false; simp [h]
    clear h
    go_enter Try.func70, Try.ntmps70
    go_wp2
    go_ret
    exact ⟨ret_boolB HF.out.symm, ((Below.refl _ _).alloc (Nat.le_refl _) _).alloc (by simp) _⟩

theorem e_take_succ {xs ys : List (Int × Bool)} {k : Nat} (h : k < xs.length) (h' : k < ys.length) (e : xs.take k = ys.take k) (e' : eA xs k = eA ys k ∧ eI xs k = eI ys k) : xs.take (k + 1) = ys.take (k + 1) := by
  rw [List.take_succ_eq_append_getElem h, List.take_succ_eq_append_getElem h', e]
  simp only [eA, eI, List.getElem?_eq_getElem h, List.getElem?_eq_getElem h', Option.getD_some] at e'
  rw [Prod.ext e'.1 e'.2]
theorem e_ne {xs ys : List (Int × Bool)} {k : Nat} (e' : decide (eA xs k = eA ys k ∧ eI xs k = eI ys k) = false) : decide (xs = ys) = false := by
  simp only [decide_eq_false_iff_not] at e' ⊢
  intro e; subst e; exact e' ⟨rfl, rfl⟩

set_option maxHeartbeats 2000000 in
theorem eqEntryS_any (a b : Option Addr) (n m ca cb : Nat) (xs ys : List (Int × Bool)) (w : World) (ha : ERead w a n xs) (hb : ERead w b m ys) (hn : n ≤ 2097152) (hm : m ≤ 2097152) :
    Calls Try.prog 36 #[.slice a n ca, .slice b m cb] w fun e w' => e = .returned (.bool (decide (xs = ys))) ∧ Below w.heap.size w w' := by
  obtain ⟨hx, ha⟩ := ha
  obtain ⟨hy, hb⟩ := hb
  by_cases hnm : n = m
  · subst hnm
    rcases ha with h0 | ⟨g, off, rfl, hc⟩
    · subst h0
      have hf : xs = ys := by rw [List.length_eq_zero_iff.1 hx, List.length_eq_zero_iff.1 hy]
      have HF : Hid (decide (xs = ys) = true) := by show _ = true; simp [hf]
      clear hf hb
      go_enter Try.func36, Try.ntmps36
      go_wp2
      refine wp_loop_rounds 1 ?_
      rw [rounds_succ]
      go_wp2
      go_ret
      exact ⟨ret_boolB HF.out.symm, Below.refl _ _⟩
    · rcases hb with h0 | ⟨g', off', rfl, hc'⟩
      · subst h0
        have hf : xs = ys := by rw [List.length_eq_zero_iff.1 hx, List.length_eq_zero_iff.1 hy]
        have HF : Hid (decide (xs = ys) = true) := by show _ = true; simp [hf]
        clear hf hc
        go_enter Try.func36, Try.ntmps36
        go_wp2
        refine wp_loop_rounds 1 ?_
        rw [rounds_succ]
        go_wp2
        go_ret
        exact ⟨ret_boolB HF.out.symm, Below.refl _ _⟩
      · have hne : ((n : Int) != (n : Int)) = false := by simp
        have HX : Hid (xs.length = n) := hx
        have HY : Hid (ys.length = n) := hy
        clear hx hy
        go_enter Try.func36, Try.ntmps36
        go_wp2
        go_loopw [5] (fun i wr => ∃ k : Nat, k ≤ n ∧ i = .int .i64 k ∧ xs.take k = ys.take k ∧ Below w.heap.size w wr) (fun i _ => n - (intOf i).toNat)
        case atStart => exact ⟨0, Nat.zero_le _, rfl, rfl, Below.refl _ _⟩
        case round =>
          obtain ⟨k, hk, rfl, htk, hbel⟩ := hrel
          have HT : Hid (xs.take k = ys.take k) := htk
          clear htk
          by_cases hlt : k < n
          · have c1 := (hc k hlt).1
            have c2 := (hc k hlt).2
            have c3 := (hc' k hlt).1
            have c4 := (hc' k hlt).2
            rw [← hbel.cell (World.block_lt_of_cell? w _ c1)] at c1
            rw [← hbel.cell (World.block_lt_of_cell? w _ c2)] at c2
            rw [← hbel.cell (World.block_lt_of_cell? w _ c3)] at c3
            rw [← hbel.cell (World.block_lt_of_cell? w _ c4)] at c4
            have hlt' : (k : Int) < (n : Int) := by omega
            have h0' : (0 : Int) ≤ (k : Int) := by omega
            clear hc hc'
            cases hq : decide (eA xs k = eA ys k ∧ eI xs k = eI ys k)
            · have HF : Hid (decide (xs = ys) = false) := e_ne hq
              go_wp2
              go_region_with (go_at_call 70; refine (eqEntry_any _ _ _ _ wr.drew).mono ?_; rintro e w' ⟨rfl, hb1⟩; rw [hq])
              all_goals
                go_wp2
                go_ret
                exact ⟨ret_boolB HF.out.symm, hbel.drew.trans (hb1.mono hbel.size)⟩
            · have HS : Hid (xs.take (k + 1) = ys.take (k + 1)) := e_take_succ (by rw [HX.out]; exact hlt) (by rw [HY.out]; exact hlt) HT.out (by simpa using hq)
              go_wp2
              go_region_with (go_at_call 70; refine (eqEntry_any _ _ _ _ wr.drew).mono ?_; rintro e w' ⟨rfl, hb1⟩; rw [hq])
              all_goals
                go_wp2
                go_roundw
                case rel => exact ⟨k + 1, by omega, by go_num, HS.out, hbel.drew.trans (hb1.mono hbel.size)⟩
                case measure => simp [intOf]; omega
          · have HF : Hid (decide (xs = ys) = true) := by
              show _ = true
              have := HT.out
              rw [List.take_of_length_le (by rw [HX.out]; omega), List.take_of_length_le (by rw [HY.out]; omega)] at this
              simp [this]
            clear hc hc'
            go_wp2
            go_ret
            exact ⟨ret_boolB HF.out.symm, hbel⟩
  · have HF : Hid (decide (xs = ys) = false) := by
      show _ = false
      simp only [decide_eq_false_iff_not]
      intro e; rw [e] at hx; omega
    have hne : ((n : Int) != (m : Int)) = true := by simp; omega
    clear ha hb
    go_enter Try.func36, Try.ntmps36
    go_wp2
    go_ret
    exact ⟨ret_boolB HF.out.symm, Below.refl _ _⟩

/-- n entries from the head of block g on hold f; all may be written. -/
def ECells (w : World) (g off n : Nat) (f : Nat → Int × Bool) : Prop :=
  ∀ i, i < n → (w.cell? ⟨g, off + i * 2, none⟩ = some (.int .i64 (f i).1) ∧ w.frozen? ⟨g, off + i * 2, none⟩ = false) ∧ w.cell? ⟨g, off + i * 2 + 1, none⟩ = some (.bool (f i).2) ∧ w.frozen? ⟨g, off + i * 2 + 1, none⟩ = false
theorem ECells.set {w : World} {g off n : Nat} {f : Nat → Int × Bool} (h : ECells w g off n f) (j : Nat) (hj : j < n) (x : Int) (b : Bool) (f' : Nat → Int × Bool) (hf : ∀ i, i < n → f' i = if i = j then (x, b) else f i) :
    ECells ((w.setCell ⟨g, off + j * 2, none⟩ (.int .i64 x)).setCell ⟨g, off + j * 2 + 1, none⟩ (.bool b)) g off n f' := by
  intro i hi
  obtain ⟨⟨c1, c2⟩, c3, c4⟩ := h i hi
  simp only [World.frozen?_setCell]
  rw [hf i hi]
  by_cases e : i = j
  · subst e
    rw [if_pos rfl]
    refine ⟨⟨?_, c2⟩, ?_, c4⟩
    · rw [World.cell?_setCell_other (h := by intro e; injection e with e1 e2 e3; omega)]
      exact World.cell?_setCell_same _ _ _ c1
    · exact World.cell?_setCell_same _ _ _ (by rw [World.cell?_setCell_other (h := by intro e; injection e with e1 e2 e3; omega)]; exact c3)
  · rw [if_neg e]
    refine ⟨⟨?_, c2⟩, ?_, c4⟩
    · rw [World.cell?_setCell_other (h := by intro e; injection e with e1 e2 e3; omega), World.cell?_setCell_other (h := by intro e; injection e with e1 e2 e3; omega)]
      exact c1
    · rw [World.cell?_setCell_other (h := by intro e; injection e with e1 e2 e3; omega), World.cell?_setCell_other (h := by intro e; injection e with e1 e2 e3; omega)]
      exact c3
theorem ECells.own {G : Nat → Prop} {w : World} {g off n : Nat} {f : Nat → Int × Bool} {es : List (Int × Bool)} (h : ECells w g off n f) (hg : G g) (hl : es.length = n) (hf : ∀ i, i < n → f i = (eA es i, eI es i)) : EOwn G w (some ⟨g, off, none⟩) n es :=
  ⟨hl, .inr ⟨g, off, rfl, hg, fun i hi => by have := h i hi; rw [hf i hi] at this; exact this⟩⟩
theorem EOwn.cells {G : Nat → Prop} {w : World} {g off n : Nat} {es : List (Int × Bool)} (hc : ∀ i, i < n → (w.cell? ⟨g, off + i * 2, none⟩ = some (.int .i64 (eA es i)) ∧ w.frozen? ⟨g, off + i * 2, none⟩ = false) ∧ w.cell? ⟨g, off + i * 2 + 1, none⟩ = some (.bool (eI es i)) ∧ w.frozen? ⟨g, off + i * 2 + 1, none⟩ = false) : ECells w g off n (fun i => (eA es i, eI es i)) := hc
theorem step_e {β : Type} (k i : Nat) (p q : Nat → β) : (if i < k + 1 then p i else q i) = if i = k then p k else if i < k then p i else q i := by
  by_cases e : i = k
  · subst e; simp
  · rw [if_neg e]; by_cases h : i < k
    · rw [if_pos h, if_pos (by omega)]
    · rw [if_neg h, if_neg (by omega)]

theorem info94 : (Try.prog.info? 94).map (fun i => (i.zero, i.size, i.bytes)) = some (some (.agg #[.int .i64 0, .bool false]), 2, 16) := by kernel_rfl
theorem made_twoE (x y : Value) (n i : Nat) (h : i < n) : (madeCells #[x, y] (n * 2)).toList[i * 2]? = some x ∧ (madeCells #[x, y] (n * 2)).toList[i * 2 + 1]? = some y := by
  have h1 : i * 2 < n * 2 := by omega
  have h2 : i * 2 + 1 < n * 2 := by omega
  constructor
  · simp [madeCells, h1]
  · simp [madeCells, h2, Nat.add_mod]
theorem made_ecells {w1 : World} {B g n e : Nat} (h : w1.ownsRow B e 2 (.slice (some ⟨g, 0, none⟩) n n) n (madeCells #[.int .i64 0, .bool false] (n * 2)).toList) : ECells w1 g 0 n (fun _ => (0, false)) := by
  intro i hi
  obtain ⟨m1, m2⟩ := made_twoE (.int .i64 0) (.bool false) n i hi
  simp only [Nat.zero_add]
  refine ⟨⟨?_, h.frozenAt _⟩, ?_, h.frozenAt _⟩
  · rw [h.cellAt _ (by omega), m1]
  · rw [h.cellAt _ (by omega), m2]

set_option maxHeartbeats 2000000 in
theorem toEntryS_any (a : Option Addr) (n ca : Nat) (es : List (Int × Bool)) (w : World) (ha : ERead w a n es) (hn : n ≤ 2097152) :
    Calls Try.prog 33 #[.slice a n ca] w fun e w' => e = .returned (.slice (some ⟨w.heap.size, 0, none⟩) n n) ∧ EOwn (fun g => g = w.heap.size) w' (some ⟨w.heap.size, 0, none⟩) n es ∧ Below w.heap.size w w' ∧ w.heap.size < w'.heap.size := by
  obtain ⟨i0, hi, hz0, hz1, hz2⟩ := info_parts info94
  obtain ⟨hx, ha⟩ := ha
  rcases ha with h0 | ⟨g, off, rfl, hc⟩
  · subst h0
    go_enter Try.func33, Try.ntmps33
    go_wp2_with (at_make; refine wpList_make_full _ rfl _ _ 56 rfl w.heap.size 94 i0 (.agg #[.int .i64 0, .bool false]) 2 Try.underlying56 hi hz0 hz1 .i64 .i64 _ _ 0 rfl rfl rfl rfl ?c1 ?c2 ?c3 ?_)
    case c1 => rw [hz2]; omega
    case c2 => unfold maxLen; omega
    case c3 => exact Nat.le_refl _
    intro w1 hown hgrow
    have hsz := made_size hown
    have hbel := Below.of_grown hgrow
    clear hown hgrow
    go_wp2
    refine wp_loop_rounds 1 ?_
    rw [rounds_succ]
    go_wp2
    go_ret
    exact ⟨rfl, ⟨hx, .inl rfl⟩, hbel, hsz⟩
  · have HX : Hid (es.length = n) := hx
    clear hx
    go_enter Try.func33, Try.ntmps33
    go_wp2_with (at_make; refine wpList_make_full _ rfl _ _ 56 rfl w.heap.size 94 i0 (.agg #[.int .i64 0, .bool false]) 2 Try.underlying56 hi hz0 hz1 .i64 .i64 _ _ n rfl rfl rfl rfl ?c1 ?c2 ?c3 ?_)
    case c1 => rw [hz2]; omega
    case c2 => unfold maxLen; omega
    case c3 => exact Nat.le_refl _
    intro w1 hown hgrow
    have hsz := made_size hown
    have hcs := made_ecells hown
    have hbel := Below.of_grown hgrow
    clear hown hgrow hi hz0 hz1 hz2
    go_wp2
    go_loopw [4] (fun i wr => ∃ k : Nat, k ≤ n ∧ i = .int .i64 k ∧ ECells wr w.heap.size 0 n (fun j => if j < k then (eA es j, eI es j) else (0, false)) ∧ Below w.heap.size w wr ∧ w.heap.size < wr.heap.size) (fun i _ => n - (intOf i).toNat)
    case atStart => exact ⟨0, Nat.zero_le _, rfl, by simpa using hcs, hbel, hsz⟩
    case round =>
      obtain ⟨k, hk, rfl, hf, hbel, hsz⟩ := hrel
      by_cases hlt : k < n
      · obtain ⟨c1, c2⟩ := hc k hlt
        rw [← hbel.cell (World.block_lt_of_cell? w _ c1)] at c1
        rw [← hbel.cell (World.block_lt_of_cell? w _ c2)] at c2
        clear hc
        go_wp2_with fail
        refine (toEntry_any _ _ _).mono ?_
        rintro e w2 ⟨rfl, hb2⟩
        have hf2 : ECells w2 w.heap.size 0 n (fun j => if j < k then (eA es j, eI es j) else (0, false)) := by
          intro i hi
          obtain ⟨⟨d1, d2⟩, d3, d4⟩ := hf i hi
          rw [hb2.cell (p := ⟨w.heap.size, 0 + i * 2, none⟩) hsz, hb2.frozen (p := ⟨w.heap.size, 0 + i * 2, none⟩) hsz, hb2.cell (p := ⟨w.heap.size, 0 + i * 2 + 1, none⟩) hsz, hb2.frozen (p := ⟨w.heap.size, 0 + i * 2 + 1, none⟩) hsz]
          exact ⟨⟨d1, d2⟩, d3, d4⟩
        obtain ⟨⟨d1, d2⟩, d3, d4⟩ := hf2 k hlt
        have hf' := hf2.set k hlt (eA es k) (eI es k) (fun j => if j < k + 1 then (eA es j, eI es j) else (0, false)) (fun i _ => step_e k i (fun j => (eA es j, eI es j)) (fun _ => (0, false)))
        have hb3 := ((hbel.trans (hb2.mono hbel.size)).setCell (p := ⟨w.heap.size, 0 + k * 2, none⟩) (Nat.le_refl _) (.int .i64 (eA es k))).setCell (p := ⟨w.heap.size, 0 + k * 2 + 1, none⟩) (Nat.le_refl _) (.bool (eI es k))
        have hs3 : w.heap.size < ((w2.setCell ⟨w.heap.size, 0 + k * 2, none⟩ (.int .i64 (eA es k))).setCell ⟨w.heap.size, 0 + k * 2 + 1, none⟩ (.bool (eI es k))).heap.size := by
          have := hb2.size
          simp [World.setCell]; omega
        rw [Nat.zero_add] at d1 d2 d3 d4 hf' hb3 hs3
        clear hf hf2 hb2 c1 c2
        go_wp2
        go_roundw
        case rel => exact ⟨k + 1, by omega, by go_num, hf', hb3, hs3⟩
        case measure => simp [intOf]; omega
      · have hfin : EOwn (fun g => g = w.heap.size) wr (some ⟨w.heap.size, 0, none⟩) n es := hf.own rfl HX.out (by intro i hi; simp [show i < k by omega])
        clear hf hc
        go_wp2
        go_ret
        exact ⟨rfl, hfin, hbel, hsz⟩

set_option maxHeartbeats 2000000 in
theorem markEntryS_any (a : Option Addr) (n ca : Nat) (k : Int) (G : Nat → Prop) (es : List (Int × Bool)) (w : World) (ha : EOwn G w a n es) (hn : n ≤ 2097152) (h0 : 0 ≤ k) (h1 : k ≤ 35184372088832) :
    Calls Try.prog 37 #[.slice a n ca, .int .i64 k] w fun e w' => ∃ es', e = .returned (.int .i64 (k + 2 * n)) ∧ EOwn G w' a n es' ∧ (∀ i, i < n → eA es' i = k + 2 * i ∧ eI es' i = ((k + 2 * i + 1) % 3 == 0)) ∧ Kept G w w' := by
  obtain ⟨hx, ha⟩ := ha
  rcases ha with h0' | ⟨g, off, rfl, hg, hc⟩
  · subst h0'
    go_enter Try.func37, Try.ntmps37
    go_wp2
    refine wp_loop_rounds 1 ?_
    rw [rounds_succ]
    go_wp2
    go_ret
    exact ⟨[], ret_int (by omega), ⟨rfl, .inl rfl⟩, fun i hi => absurd hi (by omega), Kept.refl _ _⟩
  · have HG : Hid (G g) := hg
    clear hx hg
    have hc0 : ECells w g off n (fun i => (eA es i, eI es i)) := hc
    clear hc
    go_enter Try.func37, Try.ntmps37
    go_wp2
    go_loopw [1, 5] (fun kk i wr => ∃ j : Nat, j ≤ n ∧ kk = .int .i64 (k + 2 * j) ∧ i = .int .i64 j ∧ ECells wr g off n (fun i => if i < j then (k + 2 * (i : Int), (k + 2 * (i : Int) + 1) % 3 == 0) else (eA es i, eI es i)) ∧ Kept G w wr) (fun _ i _ => n - (intOf i).toNat)
    case atStart => exact ⟨0, Nat.zero_le _, by simp, rfl, by simpa using hc0, Kept.refl _ _⟩
    case round =>
      obtain ⟨j, hj, rfl, rfl, hf, hkp⟩ := hrel
      by_cases hlt : j < n
      · obtain ⟨⟨d1, d2⟩, d3, d4⟩ := hf j hlt
        have hf' := hf.set j hlt (k + 2 * (j : Int)) ((k + 2 * (j : Int) + 1) % 3 == 0) (fun i => if i < j + 1 then (k + 2 * (i : Int), (k + 2 * (i : Int) + 1) % 3 == 0) else (eA es i, eI es i)) (fun i _ => step_e j i (fun i : Nat => (k + 2 * (i : Int), (k + 2 * (i : Int) + 1) % 3 == 0)) (fun i => (eA es i, eI es i)))
        have hk' := (hkp.trans (Kept.setCell wr ⟨g, off + j * 2, none⟩ (.int .i64 (k + 2 * (j : Int))) G HG.out)).trans (Kept.setCell _ ⟨g, off + j * 2 + 1, none⟩ (.bool ((k + 2 * (j : Int) + 1) % 3 == 0)) G HG.out)
        clear hf hkp hc0
        go_wp2
        go_roundw
        case rel => exact ⟨j + 1, by omega, by go_num, by go_num, hf', hk'⟩
        case measure => simp [intOf]; omega
      · have hjn : j = n := by omega
        subst hjn
        have hat : ∀ i, i < j → ((List.range j).map fun i : Nat => (k + 2 * (i : Int), (k + 2 * (i : Int) + 1) % 3 == 0))[i]?.getD (0, false) = (k + 2 * (i : Int), (k + 2 * (i : Int) + 1) % 3 == 0) := fun i hi => by simp [hi]
        have hfin : EOwn G wr (some ⟨g, off, none⟩) j ((List.range j).map fun i : Nat => (k + 2 * (i : Int), (k + 2 * (i : Int) + 1) % 3 == 0)) := hf.own HG.out (by simp) (by intro i hi; rw [if_pos hi]; simp only [eA, eI, hat i hi])
        clear hf hc0
        go_wp2
        go_ret
        exact ⟨_, rfl, hfin, fun i hi => by simp only [eA, eI, hat i hi]; exact ⟨by trivial, by trivial⟩, hkp⟩
end Go.Proofs.Ytkkammbfomiofac
