/-
  The program's readInode where the bytes run out.
-/
import Derived.Test.YtkkammbfomiofaaDoorRin
namespace Go.Proofs.YtkkammbfomiofaaDoor
open Go.RowKit
set_option linter.unusedSimpArgs false
set_option linter.unusedVariables false

set_option maxHeartbeats 1000000 in
set_option maxRecDepth 100000 in
theorem readInode_few (r : Nat) (a : Option Addr) (n c : Nat) (xs : List Int) (w0 w : World) (ha : IRow .u8 w0 a n xs) (hb : Below w0.heap.size w0 w) (hr : w0.heap.size ≤ r) (h0 : w.heap[r]? = some (.cells #[.slice a n c] 62 (0, 0))) (hk : n < 18) (hc : n ≤ c) (hm : c ≤ 9223372036854775807) (hby : Byt xs) :
    Calls Tryd.prog 25 #[.pointer (some ⟨r, 0, none⟩)] w fun e w' => e = .panicked outV ∧ Kept (fun g => g = r) w w' := by
  have hrw : r < w.heap.size := (Array.getElem?_eq_some_iff.1 h0).1
  have hbA : Below w0.heap.size w0 (w.alloc (.cells #[.string ⟨#[]⟩, .int .i64 0, .slice none 0 0] 25)) := hb.alloc hb.size _
  have rA := (((Below.refl _ w).alloc (Nat.le_refl _) (.cells #[.string ⟨#[]⟩, .int .i64 0, .slice none 0 0] 25)).block r hrw).trans h0
  obtain ⟨r1, r2⟩ := one_of rA
  have kA : Kept (fun g => g = r) w (w.alloc (.cells #[.string ⟨#[]⟩, .int .i64 0, .slice none 0 0] 25)) := Kept.of_below ((Below.refl _ w).alloc (Nat.le_refl _) _) _
  by_cases h16 : n < 16
  · go_enter Tryd.func25, Tryd.ntmps25
    go_wp2_with fail
    refine (take_short r a n c 16 _ r1 h16).mono ?_
    rintro e w1 ⟨rfl, rfl⟩
    exact ⟨rfl, rfl, kA⟩
  · go_enter Tryd.func25, Tryd.ntmps25
    go_wp2_with fail
    refine (take_long r a n c 16 xs w0 _ ha r1 r2 (by omega) (by omega) hc hm).mono ?_
    rintro e w1 ⟨rfl, a1, c1, e1, l1, m1, i1⟩
    have rw1 : w1.heap[r]? = some (.cells #[.slice a1 (n - 16) c1] 62 (0, 0)) := by rw [e1]; simp [World.setCell, Array.getElem?_modify, rA]
    have kw1 : Kept (fun g => g = r) w w1 := by rw [e1]; exact kA.trans (Kept.setCell _ ⟨r, 0, none⟩ _ _ rfl)
    have bw1 : Below w0.heap.size w0 w1 := by rw [e1]; exact hbA.setCell hr _
    have q1 := conv_str c (irow_takeN 16 (by omega) (ha.below bw1)) (byt_take hby 16)
    clear e1 rA r1 r2 kA hbA h0 hb ha
    go_wp2_with fail
    refine (trimRight_zero ((xs.take 16).map toU) (by simp; omega) _).mono ?_
    rintro e w1' ⟨rfl, rfl⟩
    clear q1
    obtain ⟨r1, r2⟩ := one_of rw1
    go_wp2_with fail
    refine (number_short r a1 (n - 16) c1 2 w1' r1 (by omega)).mono ?_
    rintro e w2 ⟨rfl, rfl⟩
    exact ⟨rfl, rfl, kw1⟩
set_option maxHeartbeats 4000000 in
set_option maxRecDepth 100000 in
theorem readInode_mid (r : Nat) (a : Option Addr) (n c : Nat) (xs : List Int) (w0 w : World) (ha : IRow .u8 w0 a n xs) (hb : Below w0.heap.size w0 w) (hr : w0.heap.size ≤ r) (h0 : w.heap[r]? = some (.cells #[.slice a n c] 62 (0, 0))) (h18 : 18 ≤ n) (hk : n < 18 + 2 * inK xs) (hc : n ≤ c) (hm : c ≤ 9223372036854775807) (hby : Byt xs) :
    Calls Tryd.prog 25 #[.pointer (some ⟨r, 0, none⟩)] w fun e w' => e = .panicked outV ∧ Kept (fun g => g = r) w w' := by
  obtain ⟨i0, hi0, hz0, hz1, hz2⟩ := info_parts info2
  have hrw : r < w.heap.size := (Array.getElem?_eq_some_iff.1 h0).1
  obtain ⟨z0, z1⟩ := inZ_range hby (by rw [ha.1]; omega)
  have HK : Hid (inK xs = ((inZ xs + 63) / 64).toNat) := rfl
  have HB0 : Hid (Below w0.heap.size w0 w) := hb
  have hbA : Below w0.heap.size w0 (w.alloc (.cells #[.string ⟨#[]⟩, .int .i64 0, .slice none 0 0] 25)) := hb.alloc hb.size _
  have cA := heap_alloc_new w (.cells #[.string ⟨#[]⟩, .int .i64 0, .slice none 0 0] 25)
  have rA := (((Below.refl _ w).alloc (Nat.le_refl _) (.cells #[.string ⟨#[]⟩, .int .i64 0, .slice none 0 0] 25)).block r hrw).trans h0
  obtain ⟨r1, r2⟩ := one_of rA
  have kA : Kept (fun g => g = r) w (w.alloc (.cells #[.string ⟨#[]⟩, .int .i64 0, .slice none 0 0] 25)) := Kept.of_below ((Below.refl _ w).alloc (Nat.le_refl _) _) _
  go_enter Tryd.func25, Tryd.ntmps25
  go_wp2_with fail
  refine (take_long r a n c 16 xs w0 _ ha r1 r2 (by omega) (by omega) hc hm).mono ?_
  rintro e w1 ⟨rfl, a1, c1, e1, l1, m1, i1⟩
  have rw1 : w1.heap[r]? = some (.cells #[.slice a1 (n - 16) c1] 62 (0, 0)) := by rw [e1]; simp [World.setCell, Array.getElem?_modify, rA]
  have cw1 : w1.heap[w.heap.size]? = some (.cells #[.string ⟨#[]⟩, .int .i64 0, .slice none 0 0] 25 (0, 0)) := by rw [e1, gn_set (by omega)]; exact cA
  have kw1 : Kept (fun g => g = r) w w1 := by rw [e1]; exact kA.trans (Kept.setCell _ ⟨r, 0, none⟩ _ _ rfl)
  have bw1 : Below w0.heap.size w0 w1 := by rw [e1]; exact hbA.setCell hr _
  have q1 := conv_str c (irow_takeN 16 (by omega) (ha.below bw1)) (byt_take hby 16)
  have HE1 : Hid (strOf (xs.take 16) = (⟨((xs.take 16).map toU).toArray⟩ : ByteArray)) := rfl
  clear e1 rA r1 r2 cA kA hbA h0 hb ha
  go_wp2_with fail
  refine (trimRight_zero ((xs.take 16).map toU) (by simp; omega) _).mono ?_
  rintro e w1' ⟨rfl, rfl⟩
  obtain ⟨N, hN⟩ : ∃ N, inN xs = N := ⟨_, rfl⟩
  have HN : Hid (inN xs = N) := hN
  rw [show (⟨(Lib.trimRightB ((xs.take 16).map toU) 0).toArray⟩ : ByteArray) = N from hN]
  clear q1 hN
  obtain ⟨r1, r2⟩ := one_of rw1
  have sz1 : w.heap.size < w1'.heap.size := (Array.getElem?_eq_some_iff.1 cw1).1
  go_wp2_with fail
  refine (number_long r a1 (n - 16) c1 2 (xs.drop 16) w0 w1' i1 bw1 hr r1 r2 (by omega) (by omega) (by omega) l1 (by omega) (fun i hi => (byt_drop hby 16).at i (by rw [i1.1]; exact hi))).mono ?_
  rintro e w2 ⟨rfl, a2, c2, k2, f2, l2, m2, i2, b2, e2⟩
  have rw2 : w2.heap[r]? = some (.cells #[.slice a2 (n - 16 - 2) c2] 62 (0, 0)) := by rw [e2]; simp [World.setCell, Array.getElem?_modify, rw1]
  have cw2 : w2.heap[w.heap.size]? = some (.cells #[.string ⟨#[]⟩, .int .i64 0, .slice none 0 0] 25 (0, 0)) := by rw [e2, gn_set (by omega)]; exact cw1
  have kw2 : Kept (fun g => g = r) w w2 := by rw [e2]; exact kw1.trans (Kept.setCell _ ⟨r, 0, none⟩ _ _ rfl)
  have sz2 : w.heap.size < w2.heap.size := (Array.getElem?_eq_some_iff.1 cw2).1
  have HB2 : Hid (Below w0.heap.size w0 w2) := b2
  obtain ⟨Z, hZ⟩ : ∃ Z, inZ xs = Z := ⟨_, rfl⟩
  have HZ : Hid (inZ xs = Z) := hZ
  rw [show wrap64 (numI ((xs.drop 16).take 2)) = Z from hZ]
  rw [hZ] at z0 z1
  rw [List.drop_drop] at i2
  have hst : Ris w0 w (w2.alloc (.cells #[.string N, .int .i64 Z, .slice none 0 0] 25)) r w2.heap.size xs n 0 none 0 a2 (n - 16 - 2) c2 := by
    have bo : Below w2.heap.size w2 (w2.alloc (.cells #[.string N, .int .i64 Z, .slice none 0 0] 25)) := (Below.refl _ _).alloc (Nat.le_refl _) _
    refine ⟨(bo.block _ (Array.getElem?_eq_some_iff.1 rw2).1).trans rw2, i2, by omega, ⟨l2, by omega⟩, ⟨rfl, .inl ⟨rfl, rfl⟩⟩, ?_, (bo.block _ sz2).trans cw2, kw2.trans (Kept.of_below bo _), ⟨hr, hrw⟩, sz2⟩
    rw [HN.out, hZ]
    exact heap_alloc_new w2 _
  obtain ⟨W2, hW2⟩ : ∃ W2, w2.alloc (.cells #[.string N, .int .i64 Z, .slice none 0 0] 25) = W2 := ⟨_, rfl⟩
  have HW2 : Hid (w2.alloc (.cells #[.string N, .int .i64 Z, .slice none 0 0] 25) = W2) := hW2
  obtain ⟨L, hL⟩ : ∃ L, w2.heap.size = L := ⟨_, rfl⟩
  have HL : Hid (w2.heap.size = L) := hL
  rw [hW2, hL] at hst
  have HST : Hid (Ris w0 w W2 r L xs n 0 none 0 a2 (n - 16 - 2) c2) := hst
  have hKZ : ((Z + 63) / 64).toNat = inK xs := by unfold inK; rw [hZ]
  obtain ⟨k, hkk⟩ : ∃ k, inK xs = k := ⟨_, rfl⟩
  have HKK : Hid (inK xs = k) := hkk
  rw [hkk] at hKZ hk
  have hKI : (Z + 63) / 64 = (k : Int) := by omega
  have HKI : Hid ((Z + 63) / 64 = (k : Int)) := hKI
  have hk9 : k ≤ 1024 := by omega
  obtain ⟨q, hq⟩ : ∃ q, q = (n - 18) / 2 := ⟨_, rfl⟩
  have hq1 : 18 + 2 * q ≤ n := by omega
  have hq2 : n < 18 + 2 * q + 2 := by omega
  have hq3 : q < k := by omega
  clear hq
  clear hst hW2 hL hZ e2 rw2 cw2 kw2 b2 k2 f2 i1 i2 bw1 rw1 cw1 kw1 r1 r2 hKZ hkk HK hKI HE1
  go_wp2_with fail
  rw [HW2.out, HL.out]
  refine (dataBlocks_wide Z _ z0 z1).mono ?_
  rintro e w3 ⟨rfl, rfl⟩
  rw [HKI.out]
  have HS0 : Hid (∃ ad cc ar m cr, Ris w0 w w3 r L xs n 0 ad cc ar m cr) := ⟨_, _, _, _, _, HST.out⟩
  clear HST HW2 HB2
  go_wp2
  go_loopw [16] (fun i wr => ∃ j : Nat, j ≤ q ∧ i = .int .i64 j ∧ Hid (∃ ad cc ar m cr, Ris w0 w wr r L xs n j ad cc ar m cr)) (fun i _ => k - (intOf i).toNat)
  case atStart => exact ⟨0, Nat.zero_le _, rfl, HS0⟩
  case round =>
    obtain ⟨j, hj, rfl, HR⟩ := hrel
    clear HS0
    obtain ⟨ad, cc, ar, m, cr, hR⟩ := HR.out
    have HX : Hid (Ris w0 w wr r L xs n j ad cc ar m cr) := hR
    obtain ⟨⟨v0, v1, v2⟩, g0, g1, g2⟩ := three_of hR.var
    have hLw := (Array.getElem?_eq_some_iff.1 hR.var).1
    have hln := hR.len
    have hjk : j < k := by omega
    by_cases hlt : j < q
    · obtain ⟨r1, r2⟩ := one_of hR.rd
      have hcap := hR.cap
      have hrr := hR.hr
      have hLL := hR.hL
      have irow := hR.row
      have hbw : Below w0.heap.size w0 wr.drew := (HB0.out.trans (hR.kp.below HB0.out.size (fun g hg => by omega))).drew
      have hyy : ∀ i, i < m → 0 ≤ (xs.drop (18 + 2 * j))[i]?.getD 0 ∧ (xs.drop (18 + 2 * j))[i]?.getD 0 ≤ 255 := fun i hi => (byt_drop hby _).at i (by rw [irow.1]; exact hi)
      have HYY : Hid (∀ i, i < m → 0 ≤ (xs.drop (18 + 2 * j))[i]?.getD 0 ∧ (xs.drop (18 + 2 * j))[i]?.getD 0 ≤ 255) := hyy
      have HIR : Hid (IRow .u8 w0 ar m (xs.drop (18 + 2 * j))) := irow
      have HBW : Hid (Below w0.heap.size w0 wr.drew) := hbw
      clear hyy irow hbw
      have hown := HX.out.own
      clear hR HR v0 v1 g0 g1 g2
      go_wp2
      refine wp_region_held_drew (S := fun _ => True) (by kernel_rfl) trivial (fun _ => ?_)
      refine wpAnyH_take (i := 0) (v := .pointer (some ⟨L, 2, none⟩)) rfl (by kernel_rfl) (by kernel_rfl) (by kernel_rfl) (fun _ _ _ h => h) (Or.inl ⟨rfl, fun V hV => by go_simp⟩) trivial ?_
      refine wpAnyH_take (i := 2) (v := .pointer (some ⟨r, 0, none⟩)) rfl (by kernel_rfl) (by kernel_rfl) (by kernel_rfl) (fun _ _ _ h => h) (Or.inl ⟨rfl, fun V hV => by go_simp⟩) trivial ?_
      refine wpAnyH_ready (rs := [1, 3]) (by kernel_rfl) (by simp) (AllReadyH.cons rfl (fun K hK => ?_) (AllReadyH.cons rfl (fun K hK => ?_) AllReadyH.nil))
      case' refine_1 =>
        go_simp
        refine hK.out _ _ trivial (fun _ => ?_)
        clear hK K
        refine wpAnyH_ready (rs := [3]) (by kernel_rfl) (by simp) (AllReadyH.cons rfl (fun K hK => ?_) AllReadyH.nil)
        go_simp
        refine (number_long r ar m cr 2 (xs.drop (18 + 2 * j)) w0 wr.drew HIR.out HBW.out hrr.1 r1 r2 (by omega) (by omega) (by omega) hcap.1 hcap.2 HYY.out).mono ?_
        rintro e w4 ⟨rfl, a4, c4, k4, f4, l4, m4, i4, b4, e4⟩
        have hS4 : w4.cell? ⟨L, 2, none⟩ = some (.slice ad j cc) := by rw [e4, World.cell?_setCell_far _ _ _ _ (by show r ≠ L; omega)]; exact v2
        refine hK.out _ _ trivial (fun _ => ?_)
        clear hK K
        obtain ⟨lid, hlid⟩ : ∃ lid, inLid xs j = lid := ⟨_, rfl⟩
        rw [show wrap64 (numI ((xs.drop (18 + 2 * j)).take 2)) = lid from hlid]
        have HLID : Hid (inLid xs j = lid) := hlid
        have hown4 : w4.ownsRow w.heap.size 2 1 (.slice ad j cc) j (i64G (inL xs j)) := by
          rw [e4]
          exact gn_kept (gn_kept hown (Kept.drew wr (fun _ => False)) (fun _ _ h => h)) (Kept.setCell _ ⟨r, 0, none⟩ _ (fun g => g = r) rfl) (fun g hg e => gn_ne HX.out.own HX.out.rd (by decide) (by rw [← e]; exact hg))
        have HE4 : Hid (w4 = wr.drew.setCell ⟨r, 0, none⟩ (.slice a4 (m - 2) c4)) := e4
        have hz4 : w.heap.size ≤ w4.heap.size := by rw [e4]; have := HX.out.kp.size; simpa using this
        have HI4 : Hid (IRow .u8 w0 a4 (m - 2) ((xs.drop (18 + 2 * j)).drop 2)) := i4
        have hS5 : ∀ o, (w4.alloc o).cell? ⟨L, 2, none⟩ = some (.slice ad j cc) := fun o => (World.cell?_alloc_lt _ _ _ (World.block_lt_of_cell? w4 _ hS4)).trans hS4
        clear e4 k4 f4 b4 i4 hlid hown r1 r2
        refine wpAnyH_ready (rs := [4]) (by kernel_rfl) (by simp) (AllReadyH.cons rfl (fun K hK => ?_) AllReadyH.nil)
        go_simp
        refine hK.out _ _ trivial (fun _ => ?_)
        clear hK K
      case' refine_2 =>
        go_simp
        refine (number_long r ar m cr 2 (xs.drop (18 + 2 * j)) w0 wr.drew HIR.out HBW.out hrr.1 r1 r2 (by omega) (by omega) (by omega) hcap.1 hcap.2 HYY.out).mono ?_
        rintro e w4 ⟨rfl, a4, c4, k4, f4, l4, m4, i4, b4, e4⟩
        have hS4 : w4.cell? ⟨L, 2, none⟩ = some (.slice ad j cc) := by rw [e4, World.cell?_setCell_far _ _ _ _ (by show r ≠ L; omega)]; exact v2
        refine hK.out _ _ trivial (fun _ => ?_)
        clear hK K
        obtain ⟨lid, hlid⟩ : ∃ lid, inLid xs j = lid := ⟨_, rfl⟩
        rw [show wrap64 (numI ((xs.drop (18 + 2 * j)).take 2)) = lid from hlid]
        have HLID : Hid (inLid xs j = lid) := hlid
        have hown4 : w4.ownsRow w.heap.size 2 1 (.slice ad j cc) j (i64G (inL xs j)) := by
          rw [e4]
          exact gn_kept (gn_kept hown (Kept.drew wr (fun _ => False)) (fun _ _ h => h)) (Kept.setCell _ ⟨r, 0, none⟩ _ (fun g => g = r) rfl) (fun g hg e => gn_ne HX.out.own HX.out.rd (by decide) (by rw [← e]; exact hg))
        have HE4 : Hid (w4 = wr.drew.setCell ⟨r, 0, none⟩ (.slice a4 (m - 2) c4)) := e4
        have hz4 : w.heap.size ≤ w4.heap.size := by rw [e4]; have := HX.out.kp.size; simpa using this
        have HI4 : Hid (IRow .u8 w0 a4 (m - 2) ((xs.drop (18 + 2 * j)).drop 2)) := i4
        have hS5 : ∀ o, (w4.alloc o).cell? ⟨L, 2, none⟩ = some (.slice ad j cc) := fun o => (World.cell?_alloc_lt _ _ _ (World.block_lt_of_cell? w4 _ hS4)).trans hS4
        clear e4 k4 f4 b4 i4 hlid hown r1 r2
        refine wpAnyH_ready (rs := [1, 4]) (by kernel_rfl) (by simp) (AllReadyH.cons rfl (fun K hK => ?_) (AllReadyH.cons rfl (fun K hK => ?_) AllReadyH.nil))
      case' refine_2.refine_1 =>
        go_simp
        refine hK.out _ _ trivial (fun _ => ?_)
        clear hK K
        refine wpAnyH_ready (rs := [4]) (by kernel_rfl) (by simp) (AllReadyH.cons rfl (fun K hK => ?_) AllReadyH.nil)
        go_simp
        refine hK.out _ _ trivial (fun _ => ?_)
        clear hK K
      case' refine_2.refine_2 =>
        go_simp
        refine hK.out _ _ trivial (fun _ => ?_)
        clear hK K
        refine wpAnyH_ready (rs := [1]) (by kernel_rfl) (by simp) (AllReadyH.cons rfl (fun K hK => ?_) AllReadyH.nil)
        go_simp
        refine hK.out _ _ trivial (fun _ => ?_)
        clear hK K
      all_goals
        refine wpAnyH_ready (rs := [5]) (by kernel_rfl) (by simp) (AllReadyH.cons rfl (fun K hK => ?_) AllReadyH.nil)
        refine gn_wanted rfl (wp_append_own _ (.tmp 19) (.tmp 22) 23 rfl w.heap.size 2 i0 (.int .i64 0) 1 8 Tryd.underlying23 hi0 hz0 hz1 hz2 rfl (by decide) (.slice ad j cc) j (i64G (inL xs j)) rfl (hown4.alloc _) ⟨w4.heap.size, 0, none⟩ 1 1 [.int .i64 lid] rfl rfl one_cell (gn_one _) (by unfold maxLen; omega) (by omega) (by simp; omega) (fun v' w7 hown7 hg7 _ => ?_))
        obtain ⟨a5, c5, rfl, ⟨y1, y2⟩, hR5⟩ := HX.out.step (v := v') (w5 := w7) (o := .cells #[.int .i64 lid] 2) HI4.out (by omega) l4 m4 (by rw [← HE4.out]; exact hg7) (by rw [HLID.out]; exact hown7)
        refine hK.out _ _ trivial (fun _ => ?_)
        have HR5 : Hid (∃ ad cc ar m cr, Ris w0 w (w7.setCell ⟨L, 2, none⟩ (.slice a5 (j + 1) c5)) r L xs n (j + 1) ad cc ar m cr) := ⟨_, _, _, _, _, hR5⟩
        clear hK K hg7 hown7 hown4 hS4 hS5 hR5
        refine wpAnyH_take (i := 6) (v := .pointer (some ⟨L, 2, none⟩)) rfl (by kernel_rfl) (by kernel_rfl) (by kernel_rfl) (fun _ _ _ h => h) (Or.inl ⟨rfl, fun V hV => by go_simp⟩) trivial ?_
        refine wpAnyH_ready (rs := [7]) (by kernel_rfl) (by simp) (AllReadyH.cons rfl (fun K hK => ?_) AllReadyH.nil)
        go_simp
        refine hK.out _ _ trivial (fun _ => ?_)
        refine wpAnyH_done (by kernel_rfl) ?_ _
        clear hK K
        go_wp2
        go_roundw
        case rel => exact ⟨j + 1, by omega, by go_num, HR5⟩
        case measure => simp [intOf]; omega
    · obtain rfl : j = q := by omega
      obtain ⟨r1, r2⟩ := one_of hR.rd
      have HKP : Hid (Kept (fun g => g = r) w wr.drew) := hR.kp.trans (Kept.drew wr _)
      have hm2 : m < 2 := by omega
      clear hR HR v0 v1 g0 g1 g2
      go_wp2
      refine wp_region_held_drew (S := fun _ => True) (by kernel_rfl) trivial (fun _ => ?_)
      refine wpAnyH_take (i := 0) (v := .pointer (some ⟨L, 2, none⟩)) rfl (by kernel_rfl) (by kernel_rfl) (by kernel_rfl) (fun _ _ _ h => h) (Or.inl ⟨rfl, fun V hV => by go_simp⟩) trivial ?_
      refine wpAnyH_take (i := 2) (v := .pointer (some ⟨r, 0, none⟩)) rfl (by kernel_rfl) (by kernel_rfl) (by kernel_rfl) (fun _ _ _ h => h) (Or.inl ⟨rfl, fun V hV => by go_simp⟩) trivial ?_
      refine wpAnyH_ready (rs := [1, 3]) (by kernel_rfl) (by simp) (AllReadyH.cons rfl (fun K hK => ?_) (AllReadyH.cons rfl (fun K hK => ?_) AllReadyH.nil))
      case' refine_1 =>
        go_simp
        refine hK.out _ _ trivial (fun _ => ?_)
        clear hK K
        refine wpAnyH_ready (rs := [3]) (by kernel_rfl) (by simp) (AllReadyH.cons rfl (fun K hK => ?_) AllReadyH.nil)
      all_goals
        go_simp
        refine (number_short r ar m cr 2 wr.drew r1 hm2).mono ?_
        rintro e w4 ⟨rfl, rfl⟩
        exact ⟨rfl, rfl, HKP.out⟩
end Go.Proofs.YtkkammbfomiofaaDoor
