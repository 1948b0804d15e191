/-
  l1CopyDisk.
-/
import Derived.Test.YtkkammbfomiofaaCds
import Derived.Test.YtkkammbfomiofaaDrd
namespace Go.Proofs.Ytkkammbfomiofaa
open Go.RowKit
set_option linter.unusedSimpArgs false
set_option linter.unusedVariables false

theorem acc_step {w W1 w5 w6 : World} {B N Dv k n64 : Nat} {ga gc : Nat} {pa : Option Addr} {pc : Nat} {T : Nat → Nat} {vs : List WV} {xs : List Int} {ws : List (Int × List Int)} {x : Int × List Int} {gn cn g' cap' : Nat} {o : Obj} {c0 : Array Value}
    (hd : W1.heap[Dv]? = some (.cells #[.slice (some ⟨ga, 0, none⟩) n64 gc, .slice pa k pc] 33 (0, 0))) (hn : W1.heap[N]? = some (.cells c0 33 (0, 0))) (ho : W1.ownsRow B 5 1 (.slice (some ⟨ga, 0, none⟩) n64 gc) n64 (u8s xs))
    (hp : PAcc T (fun g => g = N ∨ g = Dv ∨ g = ga) B W1 (.slice pa k pc) vs) (hB : Below B w W1) (hBN : B ≤ Dv) (hND : N < Dv)
    (hown5 : w5.ownsRow W1.heap.size 5 1 (.slice (some ⟨gn, 0, none⟩) 64 cn) 64 (u8s x.2)) (hb5 : Below W1.heap.size W1 w5)
    (hg6 : (w5.alloc o).grownBy w6 (Value.slice pa k pc).ownBlock) (hown6 : w6.ownsRow B 43 2 (.slice (some ⟨g', 0, none⟩) (k + 1) cap') (k + 1) (wvL vs ++ [.int .i64 x.1, .slice (some ⟨gn, 0, none⟩) 64 cn]))
    (hvl : vs.length = k) (hvw : wVal vs = ws.take k) (hx : ws[k]? = some x) (hX : x.2.length = 64) :
    ∃ T', w6.heap[Dv]? = some (.cells #[.slice (some ⟨ga, 0, none⟩) n64 gc, .slice pa k pc] 33 (0, 0)) ∧
      Hid ((w6.setCell ⟨Dv, 1, none⟩ (.slice (some ⟨g', 0, none⟩) (k + 1) cap')).heap[Dv]? = some (.cells #[.slice (some ⟨ga, 0, none⟩) n64 gc, .slice (some ⟨g', 0, none⟩) (k + 1) cap'] 33 (0, 0))) ∧
      Hid ((w6.setCell ⟨Dv, 1, none⟩ (.slice (some ⟨g', 0, none⟩) (k + 1) cap')).heap[N]? = some (.cells c0 33 (0, 0))) ∧
      Hid ((w6.setCell ⟨Dv, 1, none⟩ (.slice (some ⟨g', 0, none⟩) (k + 1) cap')).ownsRow B 5 1 (.slice (some ⟨ga, 0, none⟩) n64 gc) n64 (u8s xs)) ∧
      Hid (PAcc T' (fun g => g = N ∨ g = Dv ∨ g = ga) B (w6.setCell ⟨Dv, 1, none⟩ (.slice (some ⟨g', 0, none⟩) (k + 1) cap')) (.slice (some ⟨g', 0, none⟩) (k + 1) cap') (vs ++ [(⟨x.1, some ⟨gn, 0, none⟩, 64, cn, x.2⟩ : WV)])) ∧
      Hid (Below B w (w6.setCell ⟨Dv, 1, none⟩ (.slice (some ⟨g', 0, none⟩) (k + 1) cap'))) ∧
      Hid ((vs ++ [(⟨x.1, some ⟨gn, 0, none⟩, 64, cn, x.2⟩ : WV)]).length = k + 1 ∧ wVal (vs ++ [(⟨x.1, some ⟨gn, 0, none⟩, 64, cn, x.2⟩ : WV)]) = ws.take (k + 1)) ∧
      (∀ (g : Nat) (o : Obj), W1.heap[g]? = some o → (∀ cur, o ≠ .cells cur 43 (0, 0)) → g ≠ Dv → w6.heap[g]? = some o ∧ (w6.setCell ⟨Dv, 1, none⟩ (.slice (some ⟨g', 0, none⟩) (k + 1) cap')).heap[g]? = some o) := by
  obtain ⟨ao, co, e5, r5⟩ := owns_row hown5
  injection e5 with e5
  subst e5
  rcases hown5.2 with ⟨e, _⟩ | ⟨g5, c5, cur5, e5, hB5, hh5, _⟩
  · cases e
  injection e5 with e5 _ _
  injection e5 with e5
  injection e5 with e5
  subst e5
  have r5' : Row .u8 (fun y => y = gn) w5 (some ⟨gn, 0, none⟩) x.2.length x.2 := by
    rw [hX]
    refine ⟨hX, .inr ⟨gn, 0, rfl, rfl, ?_⟩⟩
    rcases r5.2 with h0 | ⟨g, off, e, _, hc⟩
    · omega
    · injection e with e; injection e with e1 e2; subst e1; subst e2; exact hc
  have k5 : Kept (fun g => (Value.slice pa k pc).ownBlock = some g) W1 w6 := ((Kept.of_below hb5 _).trans (Kept.of_below ((Below.refl _ w5).alloc (Nat.le_refl _) o) _)).trans (grown_kept hg6)
  have lt : ∀ {g : Nat} {o : Obj}, W1.heap[g]? = some o → g < W1.heap.size := fun hh => (Array.getElem?_eq_some_iff.1 hh).1
  have hd6 := (k5.block Dv (lt hd) (tag_neD hp.row hd (fun cur => cells_neD (by decide)))).trans hd
  have hn6 := (k5.block N (lt hn) (tag_neD hp.row hn (fun cur => cells_neD (by decide)))).trans hn
  obtain ⟨curg, hga⟩ := owns_tag ho (g := ga) rfl
  have hga6 := (k5.block ga (lt hga) (tag_neD hp.row hga (fun cur => cells_neD (by decide)))).trans hga
  have ks := Kept.setCell w6 ⟨Dv, 1, none⟩ (.slice (some ⟨g', 0, none⟩) (k + 1) cap') (fun g => g = Dv) rfl
  have hst := hp.step (bs := x.2) (blk := x.1) (c := cn) hb5 hB5 (by have := lt hd; omega) r5' (by omega) hh5 hg6 (by rw [hvl, hX]; exact hown6) (fun g hg => by
    rcases hg with rfl | rfl | rfl
    · exact ⟨lt hn, _, hn6, fun cur => cells_neD (by decide)⟩
    · exact ⟨lt hd, _, hd6, fun cur => cells_neD (by decide)⟩
    · exact ⟨lt hga, _, hga6, fun cur => cells_neD (by decide)⟩)
  rw [hvl, hX] at hst
  have hB6 : Below B w w6 := hB.trans (k5.below (by have := lt hd; omega) (fun g hg => (hp.row.lt g hg).1))
  have keep : ∀ (g : Nat) (o : Obj), W1.heap[g]? = some o → (∀ cur, o ≠ .cells cur 43 (0, 0)) → w6.heap[g]? = some o := fun g o hg ho' => (k5.block g (lt hg) (tag_neD hp.row hg ho')).trans hg
  refine ⟨_, hd6, ?_, (ks.block N (Array.getElem?_eq_some_iff.1 hn6).1 (by omega)).trans hn6, ?_, hst.1.kept ks (fun g hg => by subst hg; exact hst.1.z g (.inr (.inl rfl))), hB6.setCell (by show B ≤ Dv; omega) _, ⟨by simp [hvl], ?_⟩, fun g o' hg ho' hne => ⟨keep g o' hg ho', (ks.block g (Array.getElem?_eq_some_iff.1 (keep g o' hg ho')).1 hne).trans (keep g o' hg ho')⟩⟩
  · show _ = _
    simp [World.setCell, Array.getElem?_modify, hd6]
  · refine row_kept (row_kept ho k5 (fun g hg e => ?_)) ks (fun g hg e => ?_)
    · simp only [Value.ownBlock, Option.some.injEq] at hg
      subst hg
      exact tag_neD hp.row hga (fun cur => cells_neD (by decide)) e
    · subst e
      exact tag_neD ho hd (fun cur => cells_neD (by decide)) hg
  · have hkl : k < ws.length := (List.getElem?_eq_some_iff.1 hx).1
    have hxe : ws[k] = x := by rw [List.getElem?_eq_getElem hkl] at hx; injection hx
    rw [List.take_succ_eq_append_getElem hkl, hxe, ← hvw]
    simp [wVal]

set_option maxRecDepth 100000 in
set_option maxHeartbeats 4000000 in
theorem copyDisk_any (g off n ca : Nat) (p : Option Addr) (m cp : Nat) (xs : List Int) (ws : List WV) (w : World) (ha : IRow .u8 w (some ⟨g, off, none⟩) n xs) (hp : PRead w p m ws) (h64 : ∀ i, i < m → wN ws i = 64) (hn0 : 0 < n) (hn : n ≤ 2097152) (hm : m ≤ 400) :
    Calls Try.prog 43 #[.agg #[.slice (some ⟨g, off, none⟩) n ca, .slice p m cp]] w fun e w' => ∃ T vs ga gc pa pc, e = .returned (.agg #[.slice (some ⟨ga, 0, none⟩) n gc, .slice pa m pc]) ∧ w'.ownsRow w.heap.size 5 1 (.slice (some ⟨ga, 0, none⟩) n gc) n (u8s xs) ∧ PAcc T (fun g => g = ga) w.heap.size w' (.slice pa m pc) vs ∧ vs.length = m ∧ wVal vs = wVal ws ∧ Below w.heap.size w w' := by
  obtain ⟨iw, hiw, hw0, hw1, hw2⟩ := info_parts infoWr
  have HP : Hid (PRead w p m ws) := hp
  have H64 : Hid (∀ i, i < m → wN ws i = 64) := h64
  have HL : Hid (ws.length = m) := hp.1
  clear hp h64
  go_enter Try.func43, Try.ntmps43
  go_wp2_with fail
  refine (l1Copy_any _ _ _ xs _ ((ha.alloc _).alloc _) hn).mono ?_
  rintro e w2 ⟨s2, rfl, hown2, hb2⟩
  obtain ⟨ga, gc, rfl⟩ : ∃ ga gc, s2 = .slice (some ⟨ga, 0, none⟩) n gc := by
    rcases hown2.2 with ⟨_, h0⟩ | ⟨g', cap', cur, e, _⟩
    · omega
    · exact ⟨g', cap', e⟩
  have szA : ((w.alloc (Obj.cells #[.slice (some ⟨g, off, none⟩) n ca, .slice p m cp] 33)).alloc (Obj.cells #[.slice none 0 0, .slice none 0 0] 33)).heap.size = w.heap.size + 2 := by simp
  have k2 : w2.heap[w.heap.size]? = some (.cells #[.slice (some ⟨g, off, none⟩) n ca, .slice p m cp] 33 (0, 0)) := (hb2.block _ (by rw [szA]; omega)).trans (heap_alloc2_old w _ _)
  have r2 : w2.heap[w.heap.size + 1]? = some (.cells #[.slice none 0 0, .slice none 0 0] 33 (0, 0)) := (hb2.block _ (by rw [szA]; omega)).trans (heap_alloc2_new w _ _)
  have hB2 : Below w.heap.size w w2 := (((Below.refl _ w).alloc (Nat.le_refl _) _).alloc (by simp) _).trans (hb2.mono (by simp; omega))
  obtain ⟨Dv, hDv⟩ : ∃ Dv, w2.heap.size = Dv := ⟨_, rfl⟩
  have s2 : w.heap.size + 1 < Dv := by rw [← hDv]; exact (Array.getElem?_eq_some_iff.1 r2).1
  have bD := (Below.refl _ w2).alloc (Nat.le_refl _) (Obj.cells #[.slice (some ⟨ga, 0, none⟩) n gc, .slice none 0 0] 33)
  have HK3 : Hid ((w2.alloc (Obj.cells #[.slice (some ⟨ga, 0, none⟩) n gc, .slice none 0 0] 33)).heap[w.heap.size]? = some (.cells #[.slice (some ⟨g, off, none⟩) n ca, .slice p m cp] 33 (0, 0))) := (bD.block _ (by omega)).trans k2
  have HR3 : Hid ((w2.alloc (Obj.cells #[.slice (some ⟨ga, 0, none⟩) n gc, .slice none 0 0] 33)).heap[w.heap.size + 1]? = some (.cells #[.slice none 0 0, .slice none 0 0] 33 (0, 0))) := (bD.block _ (by omega)).trans r2
  have HD3 : Hid ((w2.alloc (Obj.cells #[.slice (some ⟨ga, 0, none⟩) n gc, .slice none 0 0] 33)).heap[Dv]? = some (.cells #[.slice (some ⟨ga, 0, none⟩) n gc, .slice none 0 0] 33 (0, 0))) := by rw [← hDv]; exact heap_alloc_new w2 _
  have HO3 : Hid ((w2.alloc (Obj.cells #[.slice (some ⟨ga, 0, none⟩) n gc, .slice none 0 0] 33)).ownsRow w.heap.size 5 1 (.slice (some ⟨ga, 0, none⟩) n gc) n (u8s xs)) := (owns_baseD hown2 (by rw [szA]; omega)).alloc _
  have HP3 : Hid (PAcc (fun _ => 0) (fun g => g = w.heap.size + 1 ∨ g = Dv ∨ g = ga) w.heap.size (w2.alloc (Obj.cells #[.slice (some ⟨ga, 0, none⟩) n gc, .slice none 0 0] 33)) (.slice none 0 0) []) := PAcc.nil _ _ _
  have HB3 : Hid (Below w.heap.size w (w2.alloc (Obj.cells #[.slice (some ⟨ga, 0, none⟩) n gc, .slice none 0 0] 33))) := hB2.trans (bD.mono hB2.size)
  have HDV : Hid (w.heap.size + 1 < Dv) := s2
  clear hown2 hb2 szA k2 r2 hB2 bD ha s2
  go_wp2
  try rw [hDv]
  go_loopw [4] (fun i wr => ∃ (k : Nat) (T : Nat → Nat) (vs : List WV) (pa : Option Addr) (pc : Nat), k ≤ m ∧ i = .int .i64 k ∧ Hid (vs.length = k ∧ wVal vs = (wVal ws).take k) ∧ Hid (wr.heap[Dv]? = some (.cells #[.slice (some ⟨ga, 0, none⟩) n gc, .slice pa k pc] 33 (0, 0))) ∧ Hid (wr.heap[w.heap.size + 1]? = some (.cells #[.slice none 0 0, .slice none 0 0] 33 (0, 0))) ∧ Hid (wr.heap[w.heap.size]? = some (.cells #[.slice (some ⟨g, off, none⟩) n ca, .slice p m cp] 33 (0, 0))) ∧ Hid (wr.ownsRow w.heap.size 5 1 (.slice (some ⟨ga, 0, none⟩) n gc) n (u8s xs)) ∧ Hid (PAcc T (fun g => g = w.heap.size + 1 ∨ g = Dv ∨ g = ga) w.heap.size wr (.slice pa k pc) vs) ∧ Hid (Below w.heap.size w wr)) (fun i _ => m - (intOf i).toNat)
  case atStart => exact ⟨0, _, [], none, 0, Nat.zero_le _, rfl, ⟨rfl, rfl⟩, HD3, HR3, HK3, HO3, HP3, HB3⟩
  case round =>
    clear HD3 HR3 HK3 HO3 HP3 HB3 hDv
    obtain ⟨k, T, vs, pa, pc, hk, rfl, hvs, hd1, hn1, hbx, ho1, hpa1, hbl⟩ := hrel
    have sD : Dv < wr.heap.size := (Array.getElem?_eq_some_iff.1 hd1.out).1
    have sN : w.heap.size < wr.heap.size := (Array.getElem?_eq_some_iff.1 hbx.out).1
    obtain ⟨b1, b2, _, _⟩ := two_cells hbx.out
    obtain ⟨d1, d2, d3, d4⟩ := two_cells hd1.out
    by_cases hlt : k < m
    · obtain ⟨_, hc, hd⟩ := HP.out
      rcases hc with h0' | ⟨gp, offp, he, hc⟩
      · omega
      subst he
      obtain ⟨c1, c2⟩ := hc k hlt
      obtain ⟨hrd0, _⟩ := hd k hlt
      rw [H64.out k hlt] at c2 hrd0
      have hX : (wBs ws k).length = 64 := hrd0.1
      have lg : gp < w.heap.size := World.block_lt_of_cell? w _ c1
      have hrd := (hrd0.below hbl.out).below ((Below.refl _ wr).drew)
      have hxk : Hid ((wVal ws)[k]? = some (wBlk ws k, wBs ws k)) := by
        show _ = _
        rw [List.getElem?_eq_getElem (by rw [wVal_len, HL.out]; exact hlt), wVal_at ws k (by rw [HL.out]; exact hlt)]
      have q1 : wr.cell? ⟨gp, offp + k * 2, none⟩ = some (.int .i64 (wBlk ws k)) := (hbl.out.cell (p := ⟨gp, offp + k * 2, none⟩) lg).trans c1
      have q2 : wr.cell? ⟨gp, offp + k * 2 + 1, none⟩ = some (.slice (wA ws k) 64 (wC ws k)) := (hbl.out.cell (p := ⟨gp, offp + k * 2 + 1, none⟩) lg).trans c2
      clear hc hd hrd0
      go_wp2
      refine wp_region_held_drew (S := fun V => V.cell? ⟨w.heap.size, 1, none⟩ = some (.slice (some ⟨gp, offp, none⟩) m cp) ∧ V.cell? ⟨gp, offp + k * 2, none⟩ = some (.int .i64 (wBlk ws k)) ∧ V.cell? ⟨gp, offp + k * 2 + 1, none⟩ = some (.slice (wA ws k) 64 (wC ws k))) (by kernel_rfl) ⟨b2, q1, q2⟩ (fun hS => ?_)
      refine wpAnyH_take (i := 0) (v := .pointer (some ⟨Dv, 1, none⟩)) rfl (by kernel_rfl) (by kernel_rfl) (by kernel_rfl) (fun _ _ _ h => h) (Or.inl ⟨rfl, fun V hV => by go_simp⟩) hS ?_
      refine wpAnyH_take (i := 2) (v := .pointer (some ⟨w.heap.size, 1, none⟩)) rfl (by kernel_rfl) (by kernel_rfl) (by kernel_rfl) (fun _ _ _ h => h) (Or.inl ⟨rfl, fun V hV => by go_simp⟩) hS ?_
      refine wpAnyH_take (i := 3) (v := .slice (some ⟨gp, offp, none⟩) m cp) rfl (by kernel_rfl) (by kernel_rfl) (by kernel_rfl) (fun _ _ _ h => h) (Or.inl ⟨rfl, fun V hV => by obtain ⟨h1, h2, h3⟩ := hV; go_simp⟩) hS ?_
      refine wpAnyH_take (i := 4) (v := .int .i64 (k : Int)) rfl (by kernel_rfl) (by kernel_rfl) (by kernel_rfl) (fun _ _ _ h => h) (Or.inl ⟨rfl, fun V hV => by go_simp⟩) hS ?_
      refine wpAnyH_take (i := 5) (v := .pointer (some ⟨gp, offp + k * 2, none⟩)) rfl (by kernel_rfl) (by kernel_rfl) (by kernel_rfl) (fun _ _ _ h => h) (Or.inl ⟨rfl, fun V hV => by go_simp⟩) hS ?_
      refine wpAnyH_take (i := 6) (v := .pointer (some ⟨gp, offp + k * 2, none⟩)) rfl (by kernel_rfl) (by kernel_rfl) (by kernel_rfl) (fun _ _ _ h => h) (Or.inl ⟨rfl, fun V hV => by go_simp⟩) hS ?_
      refine wpAnyH_take (i := 7) (v := .int .i64 (wBlk ws k)) rfl (by kernel_rfl) (by kernel_rfl) (by kernel_rfl) (fun _ _ _ h => h) (Or.inl ⟨rfl, fun V hV => by obtain ⟨h1, h2, h3⟩ := hV; go_simp⟩) hS ?_
      refine wpAnyH_take (i := 8) (v := .pointer (some ⟨w.heap.size, 1, none⟩)) rfl (by kernel_rfl) (by kernel_rfl) (by kernel_rfl) (fun _ _ _ h => h) (Or.inl ⟨rfl, fun V hV => by go_simp⟩) hS ?_
      refine wpAnyH_take (i := 9) (v := .slice (some ⟨gp, offp, none⟩) m cp) rfl (by kernel_rfl) (by kernel_rfl) (by kernel_rfl) (fun _ _ _ h => h) (Or.inl ⟨rfl, fun V hV => by obtain ⟨h1, h2, h3⟩ := hV; go_simp⟩) hS ?_
      refine wpAnyH_take (i := 10) (v := .int .i64 (k : Int)) rfl (by kernel_rfl) (by kernel_rfl) (by kernel_rfl) (fun _ _ _ h => h) (Or.inl ⟨rfl, fun V hV => by go_simp⟩) hS ?_
      refine wpAnyH_take (i := 11) (v := .pointer (some ⟨gp, offp + k * 2, none⟩)) rfl (by kernel_rfl) (by kernel_rfl) (by kernel_rfl) (fun _ _ _ h => h) (Or.inl ⟨rfl, fun V hV => by go_simp⟩) hS ?_
      refine wpAnyH_take (i := 12) (v := .pointer (some ⟨gp, offp + k * 2 + 1, none⟩)) rfl (by kernel_rfl) (by kernel_rfl) (by kernel_rfl) (fun _ _ _ h => h) (Or.inl ⟨rfl, fun V hV => by go_simp⟩) hS ?_
      refine wpAnyH_take (i := 13) (v := .slice (wA ws k) 64 (wC ws k)) rfl (by kernel_rfl) (by kernel_rfl) (by kernel_rfl) (fun _ _ _ h => h) (Or.inl ⟨rfl, fun V hV => by obtain ⟨h1, h2, h3⟩ := hV; go_simp⟩) hS ?_
      refine wpAnyH_ready (rs := [1, 14]) (by kernel_rfl) (by simp) (AllReadyH.cons rfl (fun K hK => ?_) (AllReadyH.cons rfl (fun K hK => ?_) AllReadyH.nil))
      · go_simp
        refine hK.out _ _ hS (fun hS => ?_)
        clear hK K
        refine wpAnyH_ready (rs := [14]) (by kernel_rfl) (by simp) (AllReadyH.cons rfl (fun K hK => ?_) AllReadyH.nil)
        · go_simp
          refine (l1Copy_any _ _ _ (wBs ws k) _ hrd (by omega)).mono ?_
          rintro e w5 ⟨s5, rfl, hown5, hb5⟩
          obtain ⟨gn, cn, rfl⟩ : ∃ gn cn, s5 = .slice (some ⟨gn, 0, none⟩) 64 cn := by
            rcases hown5.2 with ⟨_, h0⟩ | ⟨g', cap', cur, e, _⟩
            · omega
            · exact ⟨g', cap', e⟩
          have h5 : Hid (w5.ownsRow wr.heap.size 5 1 (.slice (some ⟨gn, 0, none⟩) 64 cn) 64 (u8s (wBs ws k)) ∧ Below wr.heap.size wr w5) := ⟨hown5, (Below.refl _ wr).drew.trans hb5⟩
          have HB5 : Hid (Below w.heap.size w w5) := hbl.out.trans (h5.out.2.mono hbl.out.size)
          have hbx5 : w5.heap[w.heap.size]? = some (.cells #[.slice (some ⟨g, off, none⟩) n ca, .slice (some ⟨gp, offp, none⟩) m cp] 33 (0, 0)) := (h5.out.2.block _ (by omega)).trans hbx.out
          have c5 : (w5.cell? ⟨w.heap.size, 1, none⟩ = some (.slice (some ⟨gp, offp, none⟩) m cp) ∧ w5.cell? ⟨gp, offp + k * 2, none⟩ = some (.int .i64 (wBlk ws k)) ∧ w5.cell? ⟨gp, offp + k * 2 + 1, none⟩ = some (.slice (wA ws k) 64 (wC ws k))) := ⟨(two_cells hbx5).2.1, (HB5.out.cell (p := ⟨gp, offp + k * 2, none⟩) lg).trans c1, (HB5.out.cell (p := ⟨gp, offp + k * 2 + 1, none⟩) lg).trans c2⟩
          have bA := (Below.refl _ w5).alloc (Nat.le_refl _) (Obj.cells #[.int .i64 (wBlk ws k), .slice (some ⟨gn, 0, none⟩) 64 cn] 43)
          have sz5 := h5.out.2.size
          have c5' : ((w5.alloc (Obj.cells #[.int .i64 (wBlk ws k), .slice (some ⟨gn, 0, none⟩) 64 cn] 43)).cell? ⟨w.heap.size, 1, none⟩ = some (.slice (some ⟨gp, offp, none⟩) m cp) ∧ (w5.alloc (Obj.cells #[.int .i64 (wBlk ws k), .slice (some ⟨gn, 0, none⟩) 64 cn] 43)).cell? ⟨gp, offp + k * 2, none⟩ = some (.int .i64 (wBlk ws k)) ∧ (w5.alloc (Obj.cells #[.int .i64 (wBlk ws k), .slice (some ⟨gn, 0, none⟩) 64 cn] 43)).cell? ⟨gp, offp + k * 2 + 1, none⟩ = some (.slice (wA ws k) 64 (wC ws k))) := ⟨(bA.cell (p := ⟨w.heap.size, 1, none⟩) (World.block_lt_of_cell? w5 _ c5.1)).trans c5.1, (bA.cell (p := ⟨gp, offp + k * 2, none⟩) (World.block_lt_of_cell? w5 _ c5.2.1)).trans c5.2.1, (bA.cell (p := ⟨gp, offp + k * 2 + 1, none⟩) (World.block_lt_of_cell? w5 _ c5.2.2)).trans c5.2.2⟩
          have d5 : w5.cell? ⟨Dv, 1, none⟩ = some (.slice pa k pc) := (h5.out.2.cell (p := ⟨Dv, 1, none⟩) sD).trans d2
          have lt5 : Dv < w5.heap.size := World.block_lt_of_cell? w5 _ d5
          have hrow5 : Hid ((w5.alloc (Obj.cells #[.int .i64 (wBlk ws k), .slice (some ⟨gn, 0, none⟩) 64 cn] 43)).ownsRow w.heap.size 43 2 (.slice pa k pc) k (wvL vs)) := by
            show World.ownsRow _ _ _ _ _ _ _
            have := hpa1.out.row
            rw [hvs.out.1] at this
            exact (row_kept this (Kept.of_below h5.out.2 (fun _ => False)) (fun _ _ => id)).alloc _
          clear hown5 hb5 bA hbx5
          go_simp
          refine hK.out _ _ c5 (fun hS => ?_)
          clear hK K
          refine wpAnyH_take (i := 15) (v := .agg #[.int .i64 (wBlk ws k), .slice (some ⟨gn, 0, none⟩) 64 cn]) rfl (by kernel_rfl) (by kernel_rfl) (by kernel_rfl) (fun _ _ _ h => h) (Or.inl ⟨rfl, fun V hV => by go_simp⟩) hS ?_
          refine wpAnyH_ready (rs := [16]) (by kernel_rfl) (by simp) (AllReadyH.cons rfl (fun K hK => ?_) AllReadyH.nil)
          go_simp
          refine hK.out _ _ c5' (fun hS => ?_)
          clear hK K
          refine wpAnyH_ready (rs := [17]) (by kernel_rfl) (by simp) (AllReadyH.cons rfl (fun K hK => ?_) AllReadyH.nil)
          refine if_wanted rfl (wp_append_own _ (.tmp 17) (.tmp 32) 31 rfl w.heap.size 43 iw (.agg #[.int .i64 0, .slice none 0 0]) 2 32 Try.underlying31 hiw hw0 hw1 hw2 rfl (by decide) (.slice pa k pc) k (wvL vs) rfl hrow5.out ⟨w5.heap.size, 0, none⟩ 1 1 [.int .i64 (wBlk ws k), .slice (some ⟨gn, 0, none⟩) 64 cn] rfl rfl (two_new w5 _ _ _) (two_one _ _) (by unfold maxLen; omega) (by omega) (by have := HB5.out.size; simp; omega) (fun v' w6 hown6 hg6 _ => ?_))
          obtain ⟨g', cap', rfl⟩ : ∃ g' cap', v' = .slice (some ⟨g', 0, none⟩) (k + 1) cap' := by
            rcases hown6.2 with ⟨_, h0⟩ | ⟨g', cap', cur, e, _⟩
            · omega
            · exact ⟨g', cap', e⟩
          obtain ⟨T', hd6, f1, f2, f3, f4, f5, f6, f7⟩ := acc_step hd1.out hn1.out ho1.out hpa1.out hbl.out (by have := HDV.out; omega) (by have := HDV.out; omega) h5.out.1 h5.out.2 hg6 hown6 hvs.out.1 hvs.out.2 hxk.out hX
          obtain ⟨m1, m2, m3, m4⟩ := two_cells hd6
          obtain ⟨y1, y2⟩ := f7 _ _ hbx.out (fun cur => cells_neD (by decide)) (by have := HDV.out; omega)
          have hgk : ∀ V : World, Below w.heap.size w V → V.heap[w.heap.size]? = some (.cells #[.slice (some ⟨g, off, none⟩) n ca, .slice (some ⟨gp, offp, none⟩) m cp] 33 (0, 0)) → (V.cell? ⟨w.heap.size, 1, none⟩ = some (.slice (some ⟨gp, offp, none⟩) m cp) ∧ V.cell? ⟨gp, offp + k * 2, none⟩ = some (.int .i64 (wBlk ws k)) ∧ V.cell? ⟨gp, offp + k * 2 + 1, none⟩ = some (.slice (wA ws k) 64 (wC ws k))) := fun V hb hh => ⟨(two_cells hh).2.1, (hb.cell (p := ⟨gp, offp + k * 2, none⟩) lg).trans c1, (hb.cell (p := ⟨gp, offp + k * 2 + 1, none⟩) lg).trans c2⟩
          have hB6 : Below w.heap.size w w6 := (HB5.out.alloc HB5.out.size _).grown hg6 (by have := HB5.out.size; simp; omega) (fun q hq => by have := (hpa1.out.row.lt q hq).1; omega)
          have hS6 := hgk w6 hB6 y1
          have hS7 := hgk _ f5.out y2
          have HF : Hid (_ ∧ _ ∧ _ ∧ _ ∧ _ ∧ _ ∧ _) := ⟨f1, f2, f3, f4, f5, f6, y2⟩
          refine hK.out _ _ hS6 (fun hS => ?_)
          clear hK K hown6 hg6 hd6 f1 f2 f3 f4 f5 f6 f7 hrow5 h5 hgk y1 hB6
          refine wpAnyH_take (i := 18) (v := .pointer (some ⟨Dv, 1, none⟩)) rfl (by kernel_rfl) (by kernel_rfl) (by kernel_rfl) (fun _ _ _ h => h) (Or.inl ⟨rfl, fun V hV => by go_simp⟩) hS ?_
          refine wpAnyH_ready (rs := [19]) (by kernel_rfl) (by simp) (AllReadyH.cons rfl (fun K hK => ?_) AllReadyH.nil)
          go_simp
          refine hK.out _ _ hS7 (fun _ => ?_)
          refine wpAnyH_done (by kernel_rfl) ?_ _
          clear hK K hS
          go_wp2
          go_roundw
          case rel => exact ⟨k + 1, T', vs ++ [(⟨wBlk ws k, some ⟨gn, 0, none⟩, 64, cn, wBs ws k⟩ : WV)], some ⟨g', 0, none⟩, cap', by omega, by go_num, HF.out.2.2.2.2.2.1, HF.out.1, HF.out.2.1, HF.out.2.2.2.2.2.2, HF.out.2.2.1, HF.out.2.2.2.1, HF.out.2.2.2.2.1⟩
          case measure => simp [intOf]; omega
      · · go_simp
          refine (l1Copy_any _ _ _ (wBs ws k) _ hrd (by omega)).mono ?_
          rintro e w5 ⟨s5, rfl, hown5, hb5⟩
          obtain ⟨gn, cn, rfl⟩ : ∃ gn cn, s5 = .slice (some ⟨gn, 0, none⟩) 64 cn := by
            rcases hown5.2 with ⟨_, h0⟩ | ⟨g', cap', cur, e, _⟩
            · omega
            · exact ⟨g', cap', e⟩
          have h5 : Hid (w5.ownsRow wr.heap.size 5 1 (.slice (some ⟨gn, 0, none⟩) 64 cn) 64 (u8s (wBs ws k)) ∧ Below wr.heap.size wr w5) := ⟨hown5, (Below.refl _ wr).drew.trans hb5⟩
          have HB5 : Hid (Below w.heap.size w w5) := hbl.out.trans (h5.out.2.mono hbl.out.size)
          have hbx5 : w5.heap[w.heap.size]? = some (.cells #[.slice (some ⟨g, off, none⟩) n ca, .slice (some ⟨gp, offp, none⟩) m cp] 33 (0, 0)) := (h5.out.2.block _ (by omega)).trans hbx.out
          have c5 : (w5.cell? ⟨w.heap.size, 1, none⟩ = some (.slice (some ⟨gp, offp, none⟩) m cp) ∧ w5.cell? ⟨gp, offp + k * 2, none⟩ = some (.int .i64 (wBlk ws k)) ∧ w5.cell? ⟨gp, offp + k * 2 + 1, none⟩ = some (.slice (wA ws k) 64 (wC ws k))) := ⟨(two_cells hbx5).2.1, (HB5.out.cell (p := ⟨gp, offp + k * 2, none⟩) lg).trans c1, (HB5.out.cell (p := ⟨gp, offp + k * 2 + 1, none⟩) lg).trans c2⟩
          have bA := (Below.refl _ w5).alloc (Nat.le_refl _) (Obj.cells #[.int .i64 (wBlk ws k), .slice (some ⟨gn, 0, none⟩) 64 cn] 43)
          have sz5 := h5.out.2.size
          have c5' : ((w5.alloc (Obj.cells #[.int .i64 (wBlk ws k), .slice (some ⟨gn, 0, none⟩) 64 cn] 43)).cell? ⟨w.heap.size, 1, none⟩ = some (.slice (some ⟨gp, offp, none⟩) m cp) ∧ (w5.alloc (Obj.cells #[.int .i64 (wBlk ws k), .slice (some ⟨gn, 0, none⟩) 64 cn] 43)).cell? ⟨gp, offp + k * 2, none⟩ = some (.int .i64 (wBlk ws k)) ∧ (w5.alloc (Obj.cells #[.int .i64 (wBlk ws k), .slice (some ⟨gn, 0, none⟩) 64 cn] 43)).cell? ⟨gp, offp + k * 2 + 1, none⟩ = some (.slice (wA ws k) 64 (wC ws k))) := ⟨(bA.cell (p := ⟨w.heap.size, 1, none⟩) (World.block_lt_of_cell? w5 _ c5.1)).trans c5.1, (bA.cell (p := ⟨gp, offp + k * 2, none⟩) (World.block_lt_of_cell? w5 _ c5.2.1)).trans c5.2.1, (bA.cell (p := ⟨gp, offp + k * 2 + 1, none⟩) (World.block_lt_of_cell? w5 _ c5.2.2)).trans c5.2.2⟩
          have d5 : w5.cell? ⟨Dv, 1, none⟩ = some (.slice pa k pc) := (h5.out.2.cell (p := ⟨Dv, 1, none⟩) sD).trans d2
          have lt5 : Dv < w5.heap.size := World.block_lt_of_cell? w5 _ d5
          have hrow5 : Hid ((w5.alloc (Obj.cells #[.int .i64 (wBlk ws k), .slice (some ⟨gn, 0, none⟩) 64 cn] 43)).ownsRow w.heap.size 43 2 (.slice pa k pc) k (wvL vs)) := by
            show World.ownsRow _ _ _ _ _ _ _
            have := hpa1.out.row
            rw [hvs.out.1] at this
            exact (row_kept this (Kept.of_below h5.out.2 (fun _ => False)) (fun _ _ => id)).alloc _
          clear hown5 hb5 bA hbx5
          go_simp
          refine hK.out _ _ c5 (fun hS => ?_)
          clear hK K
          refine wpAnyH_take (i := 15) (v := .agg #[.int .i64 (wBlk ws k), .slice (some ⟨gn, 0, none⟩) 64 cn]) rfl (by kernel_rfl) (by kernel_rfl) (by kernel_rfl) (fun _ _ _ h => h) (Or.inl ⟨rfl, fun V hV => by go_simp⟩) hS ?_
          refine wpAnyH_ready (rs := [1, 16]) (by kernel_rfl) (by simp) (AllReadyH.cons rfl (fun K hK => ?_) (AllReadyH.cons rfl (fun K hK => ?_) AllReadyH.nil))
          · go_simp
            refine hK.out _ _ c5 (fun hS => ?_)
            clear hK K
            refine wpAnyH_ready (rs := [16]) (by kernel_rfl) (by simp) (AllReadyH.cons rfl (fun K hK => ?_) AllReadyH.nil)
            go_simp
            refine hK.out _ _ c5' (fun hS => ?_)
            clear hK K
            refine wpAnyH_ready (rs := [17]) (by kernel_rfl) (by simp) (AllReadyH.cons rfl (fun K hK => ?_) AllReadyH.nil)
            refine if_wanted rfl (wp_append_own _ (.tmp 17) (.tmp 32) 31 rfl w.heap.size 43 iw (.agg #[.int .i64 0, .slice none 0 0]) 2 32 Try.underlying31 hiw hw0 hw1 hw2 rfl (by decide) (.slice pa k pc) k (wvL vs) rfl hrow5.out ⟨w5.heap.size, 0, none⟩ 1 1 [.int .i64 (wBlk ws k), .slice (some ⟨gn, 0, none⟩) 64 cn] rfl rfl (two_new w5 _ _ _) (two_one _ _) (by unfold maxLen; omega) (by omega) (by have := HB5.out.size; simp; omega) (fun v' w6 hown6 hg6 _ => ?_))
            obtain ⟨g', cap', rfl⟩ : ∃ g' cap', v' = .slice (some ⟨g', 0, none⟩) (k + 1) cap' := by
              rcases hown6.2 with ⟨_, h0⟩ | ⟨g', cap', cur, e, _⟩
              · omega
              · exact ⟨g', cap', e⟩
            obtain ⟨T', hd6, f1, f2, f3, f4, f5, f6, f7⟩ := acc_step hd1.out hn1.out ho1.out hpa1.out hbl.out (by have := HDV.out; omega) (by have := HDV.out; omega) h5.out.1 h5.out.2 hg6 hown6 hvs.out.1 hvs.out.2 hxk.out hX
            obtain ⟨m1, m2, m3, m4⟩ := two_cells hd6
            obtain ⟨y1, y2⟩ := f7 _ _ hbx.out (fun cur => cells_neD (by decide)) (by have := HDV.out; omega)
            have hgk : ∀ V : World, Below w.heap.size w V → V.heap[w.heap.size]? = some (.cells #[.slice (some ⟨g, off, none⟩) n ca, .slice (some ⟨gp, offp, none⟩) m cp] 33 (0, 0)) → (V.cell? ⟨w.heap.size, 1, none⟩ = some (.slice (some ⟨gp, offp, none⟩) m cp) ∧ V.cell? ⟨gp, offp + k * 2, none⟩ = some (.int .i64 (wBlk ws k)) ∧ V.cell? ⟨gp, offp + k * 2 + 1, none⟩ = some (.slice (wA ws k) 64 (wC ws k))) := fun V hb hh => ⟨(two_cells hh).2.1, (hb.cell (p := ⟨gp, offp + k * 2, none⟩) lg).trans c1, (hb.cell (p := ⟨gp, offp + k * 2 + 1, none⟩) lg).trans c2⟩
            have hB6 : Below w.heap.size w w6 := (HB5.out.alloc HB5.out.size _).grown hg6 (by have := HB5.out.size; simp; omega) (fun q hq => by have := (hpa1.out.row.lt q hq).1; omega)
            have hS6 := hgk w6 hB6 y1
            have hS7 := hgk _ f5.out y2
            have HF : Hid (_ ∧ _ ∧ _ ∧ _ ∧ _ ∧ _ ∧ _) := ⟨f1, f2, f3, f4, f5, f6, y2⟩
            refine hK.out _ _ hS6 (fun hS => ?_)
            clear hK K hown6 hg6 hd6 f1 f2 f3 f4 f5 f6 f7 hrow5 h5 hgk y1 hB6
            refine wpAnyH_take (i := 18) (v := .pointer (some ⟨Dv, 1, none⟩)) rfl (by kernel_rfl) (by kernel_rfl) (by kernel_rfl) (fun _ _ _ h => h) (Or.inl ⟨rfl, fun V hV => by go_simp⟩) hS ?_
            refine wpAnyH_ready (rs := [19]) (by kernel_rfl) (by simp) (AllReadyH.cons rfl (fun K hK => ?_) AllReadyH.nil)
            go_simp
            refine hK.out _ _ hS7 (fun _ => ?_)
            refine wpAnyH_done (by kernel_rfl) ?_ _
            clear hK K hS
            go_wp2
            go_roundw
            case rel => exact ⟨k + 1, T', vs ++ [(⟨wBlk ws k, some ⟨gn, 0, none⟩, 64, cn, wBs ws k⟩ : WV)], some ⟨g', 0, none⟩, cap', by omega, by go_num, HF.out.2.2.2.2.2.1, HF.out.1, HF.out.2.1, HF.out.2.2.2.2.2.2, HF.out.2.2.1, HF.out.2.2.2.1, HF.out.2.2.2.2.1⟩
            case measure => simp [intOf]; omega
          · go_simp
            refine hK.out _ _ c5' (fun hS => ?_)
            clear hK K
            refine wpAnyH_ready (rs := [1]) (by kernel_rfl) (by simp) (AllReadyH.cons rfl (fun K hK => ?_) AllReadyH.nil)
            go_simp
            refine hK.out _ _ c5' (fun hS => ?_)
            clear hK K
            refine wpAnyH_ready (rs := [17]) (by kernel_rfl) (by simp) (AllReadyH.cons rfl (fun K hK => ?_) AllReadyH.nil)
            refine if_wanted rfl (wp_append_own _ (.tmp 17) (.tmp 32) 31 rfl w.heap.size 43 iw (.agg #[.int .i64 0, .slice none 0 0]) 2 32 Try.underlying31 hiw hw0 hw1 hw2 rfl (by decide) (.slice pa k pc) k (wvL vs) rfl hrow5.out ⟨w5.heap.size, 0, none⟩ 1 1 [.int .i64 (wBlk ws k), .slice (some ⟨gn, 0, none⟩) 64 cn] rfl rfl (two_new w5 _ _ _) (two_one _ _) (by unfold maxLen; omega) (by omega) (by have := HB5.out.size; simp; omega) (fun v' w6 hown6 hg6 _ => ?_))
            obtain ⟨g', cap', rfl⟩ : ∃ g' cap', v' = .slice (some ⟨g', 0, none⟩) (k + 1) cap' := by
              rcases hown6.2 with ⟨_, h0⟩ | ⟨g', cap', cur, e, _⟩
              · omega
              · exact ⟨g', cap', e⟩
            obtain ⟨T', hd6, f1, f2, f3, f4, f5, f6, f7⟩ := acc_step hd1.out hn1.out ho1.out hpa1.out hbl.out (by have := HDV.out; omega) (by have := HDV.out; omega) h5.out.1 h5.out.2 hg6 hown6 hvs.out.1 hvs.out.2 hxk.out hX
            obtain ⟨m1, m2, m3, m4⟩ := two_cells hd6
            obtain ⟨y1, y2⟩ := f7 _ _ hbx.out (fun cur => cells_neD (by decide)) (by have := HDV.out; omega)
            have hgk : ∀ V : World, Below w.heap.size w V → V.heap[w.heap.size]? = some (.cells #[.slice (some ⟨g, off, none⟩) n ca, .slice (some ⟨gp, offp, none⟩) m cp] 33 (0, 0)) → (V.cell? ⟨w.heap.size, 1, none⟩ = some (.slice (some ⟨gp, offp, none⟩) m cp) ∧ V.cell? ⟨gp, offp + k * 2, none⟩ = some (.int .i64 (wBlk ws k)) ∧ V.cell? ⟨gp, offp + k * 2 + 1, none⟩ = some (.slice (wA ws k) 64 (wC ws k))) := fun V hb hh => ⟨(two_cells hh).2.1, (hb.cell (p := ⟨gp, offp + k * 2, none⟩) lg).trans c1, (hb.cell (p := ⟨gp, offp + k * 2 + 1, none⟩) lg).trans c2⟩
            have hB6 : Below w.heap.size w w6 := (HB5.out.alloc HB5.out.size _).grown hg6 (by have := HB5.out.size; simp; omega) (fun q hq => by have := (hpa1.out.row.lt q hq).1; omega)
            have hS6 := hgk w6 hB6 y1
            have hS7 := hgk _ f5.out y2
            have HF : Hid (_ ∧ _ ∧ _ ∧ _ ∧ _ ∧ _ ∧ _) := ⟨f1, f2, f3, f4, f5, f6, y2⟩
            refine hK.out _ _ hS6 (fun hS => ?_)
            clear hK K hown6 hg6 hd6 f1 f2 f3 f4 f5 f6 f7 hrow5 h5 hgk y1 hB6
            refine wpAnyH_take (i := 18) (v := .pointer (some ⟨Dv, 1, none⟩)) rfl (by kernel_rfl) (by kernel_rfl) (by kernel_rfl) (fun _ _ _ h => h) (Or.inl ⟨rfl, fun V hV => by go_simp⟩) hS ?_
            refine wpAnyH_ready (rs := [19]) (by kernel_rfl) (by simp) (AllReadyH.cons rfl (fun K hK => ?_) AllReadyH.nil)
            go_simp
            refine hK.out _ _ hS7 (fun _ => ?_)
            refine wpAnyH_done (by kernel_rfl) ?_ _
            clear hK K hS
            go_wp2
            go_roundw
            case rel => exact ⟨k + 1, T', vs ++ [(⟨wBlk ws k, some ⟨gn, 0, none⟩, 64, cn, wBs ws k⟩ : WV)], some ⟨g', 0, none⟩, cap', by omega, by go_num, HF.out.2.2.2.2.2.1, HF.out.1, HF.out.2.1, HF.out.2.2.2.2.2.2, HF.out.2.2.1, HF.out.2.2.2.1, HF.out.2.2.2.2.1⟩
            case measure => simp [intOf]; omega
    · obtain rfl : k = m := by omega
      obtain ⟨n1, n2, n3, n4⟩ := two_cells hn1.out
      have HW : Hid (wVal vs = wVal ws) := by have := hvs.out.2; rwa [List.take_of_length_le (by rw [wVal_len, HL.out]; exact Nat.le_refl _)] at this
      have hfin : ∀ u1 u2, ((wr.setCell ⟨w.heap.size + 1, 0, none⟩ u1).setCell ⟨w.heap.size + 1, 1, none⟩ u2).ownsRow w.heap.size 5 1 (.slice (some ⟨ga, 0, none⟩) n gc) n (u8s xs) ∧ PAcc T (fun g => g = ga) w.heap.size ((wr.setCell ⟨w.heap.size + 1, 0, none⟩ u1).setCell ⟨w.heap.size + 1, 1, none⟩ u2) (.slice pa k pc) vs ∧ Below w.heap.size w ((wr.setCell ⟨w.heap.size + 1, 0, none⟩ u1).setCell ⟨w.heap.size + 1, 1, none⟩ u2) := fun u1 u2 => by
        have ks : Kept (fun g => g = w.heap.size + 1) wr ((wr.setCell ⟨w.heap.size + 1, 0, none⟩ u1).setCell ⟨w.heap.size + 1, 1, none⟩ u2) := (Kept.setCell wr ⟨w.heap.size + 1, 0, none⟩ u1 (fun g => g = w.heap.size + 1) rfl).trans (Kept.setCell _ ⟨w.heap.size + 1, 1, none⟩ u2 (fun g => g = w.heap.size + 1) rfl)
        have hp2 := hpa1.out.kept ks (fun g hg => by subst hg; exact hpa1.out.z _ (.inl rfl))
        refine ⟨row_kept ho1.out ks (fun g hg e => by subst e; exact tag_neD ho1.out hn1.out (fun cur => cells_neD (by decide)) hg), ⟨hp2.row, hp2.tag, hp2.rows, fun g hg => hp2.z g (.inr (.inr hg)), hp2.u8⟩, (hbl.out.setCell (by show w.heap.size ≤ w.heap.size + 1; omega) _).setCell (by show w.heap.size ≤ w.heap.size + 1; omega) _⟩
      have HFIN := Hid.out hfin
      clear hfin
      go_wp2
      refine bodyPost_ret (v := .agg #[.slice (some ⟨ga, 0, none⟩) n gc, .slice pa k pc]) (by simp [results, Try.results43, go_sem, n1, n2]) rfl ?_
      obtain ⟨h1, h2, h3⟩ := HFIN (.slice (some ⟨ga, 0, none⟩) n gc) (.slice pa k pc)
      exact ⟨T, vs, ga, gc, pa, pc, rfl, h1, h2, hvs.out.1, HW.out, h3⟩
end Go.Proofs.Ytkkammbfomiofaa
