/-
  toWriteS, toDisk.
-/
import Derived.Test.YtkkammbfomiofabTo
namespace Go.Proofs.Ytkkammbfomiofab
open Go.RowKit
set_option linter.unusedSimpArgs false
set_option linter.unusedVariables false

theorem ToMid.start {w1 : World} {B n : Nat} {ws : List WV} (h : w1.ownsRow B 78 2 (.slice (some ⟨B, 0, none⟩) n n) n (madeCells #[.int .i64 0, .slice none 0 0] (n * 2)).toList) :
    ToMid (fun x => if x = B then 1 else 0) B w1 n ws (List.replicate n wv0) 0 := by
  have e : ∀ i, i < n → (List.replicate n wv0)[i]?.getD wv0 = wv0 := fun i hi => by simp [hi]
  refine ⟨by simp, by simp, fun i hi => ?_, fun i hi => absurd hi (by omega), (h.lt B rfl).2⟩
  obtain ⟨m1, m2⟩ := made_two (.int .i64 0) (.slice none 0 0) n i hi
  simp only [wBlk, wA, wN, wC, e i hi]
  refine ⟨⟨?_, h.frozenAt _⟩, ?_, h.frozenAt _⟩
  · rw [h.cellAt _ (by omega), m1]; rfl
  · rw [h.cellAt _ (by omega), m2]; rfl

set_option maxHeartbeats 2000000 in
theorem toWriteS_any (a : Option Addr) (n ca : Nat) (ws : List WV) (w : World) (ha : PRead w a n ws) (hn : n ≤ 2097152) :
    Calls Try.prog 59 #[.slice a n ca] w fun e w' => ∃ T vs, e = .returned (.slice (some ⟨w.heap.size, 0, none⟩) n n) ∧ POwn T (fun g => w.heap.size ≤ g ∧ g < w'.heap.size) w' (some ⟨w.heap.size, 0, none⟩) n vs ∧ wVal vs = wVal ws ∧ Below w.heap.size w w' ∧ w.heap.size < w'.heap.size := by
  obtain ⟨i0, hi, hz0, hz1, hz2⟩ := info_parts info78
  have ha0 := ha
  obtain ⟨hx, ha, hd⟩ := ha
  rcases ha with h0 | ⟨g, off, rfl, hc⟩
  · subst h0
    have he : ws = [] := List.length_eq_zero_iff.1 hx
    subst he
    clear hd ha0
    go_enter Try.func59, Try.ntmps59
    go_wp2_with (at_make; refine wpList_make_full _ rfl _ _ 28 rfl w.heap.size 78 i0 (.agg #[.int .i64 0, .slice none 0 0]) 2 Try.underlying28 hi hz0 hz1 .i64 .i64 _ _ 0 rfl rfl rfl rfl ?c1 ?c2 ?c3 ?_)
    case c1 => rw [hz2]; omega
    case c2 => unfold maxLen; omega
    case c3 => exact Nat.le_refl _
    intro w1 hown hgrow
    have hsz := made_size hown
    have hbel := Below.of_grown hgrow
    clear hown hgrow
    go_wp2
    refine wp_loop_rounds 1 ?_
    rw [rounds_succ]
    go_wp2
    go_ret
    exact ⟨fun _ => 0, [], rfl, pown_nil _ _ _ _, rfl, hbel, hsz⟩
  · have HA : Hid (PRead w (some ⟨g, off, none⟩) n ws) := ha0
    have HX : Hid (ws.length = n) := hx
    have HD : Hid (∀ i, i < n → wN ws i ≤ 2097152) := fun i hi => (hd i hi).2
    clear ha0 hx hd
    go_enter Try.func59, Try.ntmps59
    go_wp2_with (at_make; refine wpList_make_full _ rfl _ _ 28 rfl w.heap.size 78 i0 (.agg #[.int .i64 0, .slice none 0 0]) 2 Try.underlying28 hi hz0 hz1 .i64 .i64 _ _ n rfl rfl rfl rfl ?c1 ?c2 ?c3 ?_)
    case c1 => rw [hz2]; omega
    case c2 => unfold maxLen; omega
    case c3 => exact Nat.le_refl _
    intro w1 hown hgrow
    have hM0 : ToMid _ w.heap.size w1 n ws _ 0 := ToMid.start hown
    have hbel := Below.of_grown hgrow
    clear hown hgrow hi hz0 hz1 hz2
    go_wp2
    go_loopw [4] (fun i wr => ∃ (k : Nat) (T : Nat → Nat) (vs : List WV), k ≤ n ∧ i = .int .i64 k ∧ ToMid T w.heap.size wr n ws vs k ∧ Below w.heap.size w wr) (fun i _ => n - (intOf i).toNat)
    case atStart => exact ⟨0, _, _, Nat.zero_le _, rfl, hM0, hbel⟩
    case round =>
      obtain ⟨k, T, vs, hk, rfl, hM, hbel⟩ := hrel
      by_cases hlt : k < n
      · obtain ⟨c1, c2⟩ := hc k hlt
        rw [← hbel.cell (World.block_lt_of_cell? w _ c1)] at c1
        rw [← hbel.cell (World.block_lt_of_cell? w _ c2)] at c2
        obtain ⟨r1, s1⟩ := (HA.out.below hbel).2.2 k hlt
        clear hc
        go_wp2_with fail
        refine (toWrite_any _ _ _ _ (wBs ws k) _ r1 s1).mono ?_
        rintro e w2 ⟨g2, rfl, hg2, hs2, hr2, hb2⟩
        have hM' := hM.step hlt hb2 hg2 hr2 hs2
        obtain ⟨⟨d1, d2⟩, d3, d4⟩ := hM.cells k hlt
        have hB := hM.size
        rw [← hb2.cell (p := ⟨w.heap.size, k * 2, none⟩) hB] at d1
        rw [← hb2.frozen (p := ⟨w.heap.size, k * 2, none⟩) hB] at d2
        rw [← hb2.cell (p := ⟨w.heap.size, k * 2 + 1, none⟩) hB] at d3
        rw [← hb2.frozen (p := ⟨w.heap.size, k * 2 + 1, none⟩) hB] at d4
        have hb3 := ((hbel.trans (hb2.mono hbel.size)).setCell (p := ⟨w.heap.size, k * 2, none⟩) (Nat.le_refl _) (.int .i64 (wBlk ws k))).setCell (p := ⟨w.heap.size, k * 2 + 1, none⟩) (Nat.le_refl _) (.slice (some ⟨g2, 0, none⟩) (wN ws k) (wN ws k))
        have HM := Hid.out hM'
        clear hM' hM hr2 hb2 r1 c1 c2
        go_wp2
        go_roundw
        case rel => exact ⟨k + 1, _, _, by omega, by go_num, HM, hb3⟩
        case measure => simp [intOf]; omega
      · have hkn : k = n := by omega
        subst hkn
        have hfin := hM.done HX.out HD.out
        have hsz := hM.size
        clear hM hc
        go_wp2
        go_ret
        exact ⟨T, vs, rfl, hfin.1, hfin.2, hbel, hsz⟩
end Go.Proofs.Ytkkammbfomiofab
