/-
  Lists of writes: eqWrite, eqWriteS.
-/
import Derived.Test.YtkkammbfomiofacMark
import Derived.Deep.RegionWith
namespace Go.Proofs.Ytkkammbfomiofac
open Go.RowKit

theorem bcell {W w1 : World} (hb : Below W.heap.size W w1) : (∀ b o, b < W.heap.size → w1.cell? ⟨b, o, none⟩ = W.cell? ⟨b, o, none⟩) ∧ (∀ b o, b < W.heap.size → w1.frozen? ⟨b, o, none⟩ = W.frozen? ⟨b, o, none⟩) :=
  ⟨fun b o h => hb.cell (p := ⟨b, o, none⟩) h, fun b o h => hb.frozen (p := ⟨b, o, none⟩) h⟩

theorem IRow.alloc {k : IntKind} {w : World} {a : Option Addr} {n : Nat} {xs : List Int} (h : IRow k w a n xs) (o : Obj) : IRow k (w.alloc o) a n xs :=
  h.below ((Below.refl _ _).alloc (Nat.le_refl _) _)
theorem IRow.drew {k : IntKind} {w : World} {a : Option Addr} {n : Nat} {xs : List Int} (h : IRow k w a n xs) : IRow k w.drew a n xs := h
theorem IRow.drewN {k : IntKind} {w : World} {a : Option Addr} {n : Nat} {xs : List Int} (h : IRow k w a n xs) (d : Nat) : IRow k (w.drewN d) a n xs := h

set_option maxHeartbeats 1000000 in
theorem eqWrite_any (b1 b2 : Int) (a1 a2 : Option Addr) (n1 c1 n2 c2 : Nat) (xs ys : List Int) (w : World) (hx : IRow .u8 w a1 n1 xs) (hy : IRow .u8 w a2 n2 ys) (h1 : n1 ≤ 2097152) (h2 : n2 ≤ 2097152) :
    Calls Try.prog 82 #[.agg #[.int .i64 b1, .slice a1 n1 c1], .agg #[.int .i64 b2, .slice a2 n2 c2]] w fun e w' => e = .returned (.bool (decide (b1 = b2 ∧ xs = ys))) ∧ Below w.heap.size w w' := by
  by_cases hb : b1 = b2
  · subst hb
    have ht : (b1 != b1) = false := by simp
    cases he : decide (xs = ys)
    · have HF : Hid (decide (b1 = b1 ∧ xs = ys) = false) := by show _ = false; simpa using he
      go_enter Try.func82, Try.ntmps82
      go_wp2_with (go_at_call 15; refine (eqByteS_any _ _ _ _ _ _ xs ys _ ((hx.alloc _).alloc _) ((hy.alloc _).alloc _) h1 h2).mono ?_; rintro e w' ⟨rfl, d, rfl⟩; rw [he])
      go_ret
      exact ⟨ret_boolB HF.out.symm, below_drewN (((Below.refl _ _).alloc (Nat.le_refl _) _).alloc (by simp) _) _⟩
    · have HF : Hid (decide (b1 = b1 ∧ xs = ys) = true) := by show _ = true; simpa using he
      go_enter Try.func82, Try.ntmps82
      go_wp2_with (go_at_call 15; refine (eqByteS_any _ _ _ _ _ _ xs ys _ ((hx.alloc _).alloc _) ((hy.alloc _).alloc _) h1 h2).mono ?_; rintro e w' ⟨rfl, d, rfl⟩; rw [he])
      go_ret
      exact ⟨ret_boolB HF.out.symm, below_drewN (((Below.refl _ _).alloc (Nat.le_refl _) _).alloc (by simp) _) _⟩
  · have ht : (b1 != b2) = true := by simpa using hb
    have HF : Hid (decide (b1 = b2 ∧ xs = ys) = false) := by show _ = false; simp [hb]
    clear hb
    go_enter Try.func82, Try.ntmps82
    go_wp2
    go_ret
    exact ⟨ret_boolB HF.out.symm, (((Below.refl _ _).alloc (Nat.le_refl _) _).alloc (by simp) _)⟩

/-- A write as it lies in memory: its block, its data's address, length and capacity, its bytes. -/
structure WV where
  blk : Int
  a : Option Addr
  n : Nat
  c : Nat
  bs : List Int
def wv0 : WV := ⟨0, none, 0, 0, []⟩
def wBlk (ws : List WV) (i : Nat) : Int := (ws[i]?.getD wv0).blk
def wA (ws : List WV) (i : Nat) : Option Addr := (ws[i]?.getD wv0).a
def wN (ws : List WV) (i : Nat) : Nat := (ws[i]?.getD wv0).n
def wC (ws : List WV) (i : Nat) : Nat := (ws[i]?.getD wv0).c
def wBs (ws : List WV) (i : Nat) : List Int := (ws[i]?.getD wv0).bs
/-- What the list of writes says. -/
def wVal (ws : List WV) : List (Int × List Int) := ws.map fun x => (x.blk, x.bs)

/-- At pa lie m writes: ws. -/
def PRead (w : World) (pa : Option Addr) (m : Nat) (ws : List WV) : Prop :=
  ws.length = m ∧ (m = 0 ∨ ∃ g off, pa = some ⟨g, off, none⟩ ∧ ∀ i, i < m → w.cell? ⟨g, off + i * 2, none⟩ = some (.int .i64 (wBlk ws i)) ∧ w.cell? ⟨g, off + i * 2 + 1, none⟩ = some (.slice (wA ws i) (wN ws i) (wC ws i))) ∧
  ∀ i, i < m → IRow .u8 w (wA ws i) (wN ws i) (wBs ws i) ∧ wN ws i ≤ 2097152

theorem PRead.below {w w' : World} {pa : Option Addr} {m : Nat} {ws : List WV} (h : PRead w pa m ws) (hb : Below w.heap.size w w') : PRead w' pa m ws := by
  refine ⟨h.1, ?_, fun i hi => ⟨(h.2.2 i hi).1.below hb, (h.2.2 i hi).2⟩⟩
  by_cases hm : m = 0
  · exact .inl hm
  rcases h.2.1 with h0 | ⟨g, off, e, hc⟩
  · exact .inl h0
  · refine .inr ⟨g, off, e, fun i hi => ?_⟩
    rw [hb.cell (World.block_lt_of_cell? w _ (hc i hi).1), hb.cell (World.block_lt_of_cell? w _ (hc i hi).2)]
    exact hc i hi

theorem wVal_take_succ {xs ys : List WV} {k : Nat} (h : k < xs.length) (h' : k < ys.length) (e : (wVal xs).take k = (wVal ys).take k) (e' : wBlk xs k = wBlk ys k ∧ wBs xs k = wBs ys k) : (wVal xs).take (k + 1) = (wVal ys).take (k + 1) := by
  have l1 : k < (wVal xs).length := by simpa [wVal] using h
  have l2 : k < (wVal ys).length := by simpa [wVal] using h'
  rw [List.take_succ_eq_append_getElem l1, List.take_succ_eq_append_getElem l2, e]
  simp only [wBlk, wBs, List.getElem?_eq_getElem h, List.getElem?_eq_getElem h', Option.getD_some] at e'
  simp [wVal, e'.1, e'.2]

theorem wVal_ne {xs ys : List WV} {k : Nat} (h : k < xs.length) (h' : k < ys.length) (e' : decide (wBlk xs k = wBlk ys k ∧ wBs xs k = wBs ys k) = false) : decide (wVal xs = wVal ys) = false := by
  simp only [decide_eq_false_iff_not] at e' ⊢
  intro e
  apply e'
  have l1 : k < (wVal xs).length := by simpa [wVal] using h
  have := congrArg (fun l => l[k]?) e
  simp only [wVal, List.getElem?_map, List.getElem?_eq_getElem h, List.getElem?_eq_getElem h', Option.map_some, Option.some.injEq, Prod.mk.injEq] at this
  simpa [wBlk, wBs, List.getElem?_eq_getElem h, List.getElem?_eq_getElem h'] using this

set_option maxHeartbeats 1000000 in
theorem eqWriteS_any (a b : Option Addr) (n m ca cb : Nat) (xs ys : List WV) (w : World) (ha : PRead w a n xs) (hb : PRead w b m ys) (hn : n ≤ 2097152) (hm : m ≤ 2097152) :
    Calls Try.prog 65 #[.slice a n ca, .slice b m cb] w fun e w' => e = .returned (.bool (decide (wVal xs = wVal ys))) ∧ Below w.heap.size w w' := by
  have ha0 := ha
  have hb0 := hb
  obtain ⟨hx, ha, hda⟩ := ha
  obtain ⟨hy, hb, hdb⟩ := hb
  clear hda hdb
  by_cases hnm : n = m
  · subst hnm
    rcases ha with h0 | ⟨g, off, rfl, hc⟩
    · subst h0
      have hf : xs = ys := by rw [List.length_eq_zero_iff.1 hx, List.length_eq_zero_iff.1 hy]
      have HF : Hid (decide (wVal xs = wVal ys) = true) := by show _ = true; simp [hf]
      clear hf hb ha0 hb0
      go_enter Try.func65, Try.ntmps65
      go_wp2
      refine wp_loop_rounds 1 ?_
      rw [rounds_succ]
      go_wp2
      go_ret
      exact ⟨ret_boolB HF.out.symm, Below.refl _ _⟩
    · rcases hb with h0 | ⟨g', off', rfl, hc'⟩
      · subst h0
        have hf : xs = ys := by rw [List.length_eq_zero_iff.1 hx, List.length_eq_zero_iff.1 hy]
        have HF : Hid (decide (wVal xs = wVal ys) = true) := by show _ = true; simp [hf]
        clear hf hc ha0 hb0
        go_enter Try.func65, Try.ntmps65
        go_wp2
        refine wp_loop_rounds 1 ?_
        rw [rounds_succ]
        go_wp2
        go_ret
        exact ⟨ret_boolB HF.out.symm, Below.refl _ _⟩
      · have hne : ((n : Int) != (n : Int)) = false := by simp
        have HX : Hid (xs.length = n) := hx
        have HY : Hid (ys.length = n) := hy
        have HA : Hid (PRead w (some ⟨g, off, none⟩) n xs) := ha0
        have HB : Hid (PRead w (some ⟨g', off', none⟩) n ys) := hb0
        clear hx hy ha0 hb0
        go_enter Try.func65, Try.ntmps65
        go_wp2
        go_loopw [5] (fun i wr => ∃ k : Nat, k ≤ n ∧ i = .int .i64 k ∧ (wVal xs).take k = (wVal ys).take k ∧ Below w.heap.size w wr) (fun i _ => n - (intOf i).toNat)
        case atStart => exact ⟨0, Nat.zero_le _, rfl, rfl, Below.refl _ _⟩
        case round =>
          obtain ⟨k, hk, rfl, htk, hbel⟩ := hrel
          have HT : Hid ((wVal xs).take k = (wVal ys).take k) := htk
          clear htk
          by_cases hlt : k < n
          · have c1 := (hc k hlt).1
            have c2 := (hc k hlt).2
            have c3 := (hc' k hlt).1
            have c4 := (hc' k hlt).2
            rw [← hbel.cell (World.block_lt_of_cell? w _ c1)] at c1
            rw [← hbel.cell (World.block_lt_of_cell? w _ c2)] at c2
            rw [← hbel.cell (World.block_lt_of_cell? w _ c3)] at c3
            rw [← hbel.cell (World.block_lt_of_cell? w _ c4)] at c4
            obtain ⟨r1, s1⟩ := (HA.out.below hbel).2.2 k hlt
            obtain ⟨r2, s2⟩ := (HB.out.below hbel).2.2 k hlt
            have hlt' : (k : Int) < (n : Int) := by omega
            have h0' : (0 : Int) ≤ (k : Int) := by omega
            clear hc hc'
            cases hq : decide (wBlk xs k = wBlk ys k ∧ wBs xs k = wBs ys k)
            · have HF : Hid (decide (wVal xs = wVal ys) = false) := wVal_ne (by rw [HX.out]; exact hlt) (by rw [HY.out]; exact hlt) hq
              go_wp2
              go_region_with (go_at_call 82; refine (eqWrite_any _ _ _ _ _ _ _ _ (wBs xs k) (wBs ys k) wr.drew r1.drew r2.drew s1 s2).mono ?_; rintro e w' ⟨rfl, hb1⟩; rw [hq])
              all_goals
                go_wp2
                go_ret
                exact ⟨ret_boolB HF.out.symm, hbel.drew.trans (hb1.mono hbel.size)⟩
            · have HS : Hid ((wVal xs).take (k + 1) = (wVal ys).take (k + 1)) := wVal_take_succ (by rw [HX.out]; exact hlt) (by rw [HY.out]; exact hlt) HT.out (by simpa using hq)
              go_wp2
              go_region_with (go_at_call 82; refine (eqWrite_any _ _ _ _ _ _ _ _ (wBs xs k) (wBs ys k) wr.drew r1.drew r2.drew s1 s2).mono ?_; rintro e w' ⟨rfl, hb1⟩; rw [hq])
              all_goals
                go_wp2
                go_roundw
                case rel => exact ⟨k + 1, by omega, by go_num, HS.out, hbel.drew.trans (hb1.mono hbel.size)⟩
                case measure => simp [intOf]; omega
          · have HF : Hid (decide (wVal xs = wVal ys) = true) := by
              show _ = true
              have := HT.out
              rw [List.take_of_length_le (by simp [wVal, HX.out]; omega), List.take_of_length_le (by simp [wVal, HY.out]; omega)] at this
              simp [this]
            clear hc hc'
            go_wp2
            go_ret
            exact ⟨ret_boolB HF.out.symm, hbel⟩
  · have HF : Hid (decide (wVal xs = wVal ys) = false) := by
      show _ = false
      simp only [decide_eq_false_iff_not]
      intro e
      have := congrArg List.length e
      simp [wVal] at this
      omega
    have hne : ((n : Int) != (m : Int)) = true := by simp; omega
    clear ha hb ha0 hb0
    go_enter Try.func65, Try.ntmps65
    go_wp2
    go_ret
    exact ⟨ret_boolB HF.out.symm, Below.refl _ _⟩
end Go.Proofs.Ytkkammbfomiofac
