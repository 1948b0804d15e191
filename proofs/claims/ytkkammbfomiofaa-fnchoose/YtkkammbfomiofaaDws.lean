/-
  DiskWrite: the specification's.
-/
import Derived.Test.YtkkammbfomiofaaGe
namespace Go.Proofs.Ytkkammbfomiofaa
open Go.RowKit
set_option linter.unusedSimpArgs false
set_option linter.unusedVariables false

theorem PAcc.addZ {T : Nat → Nat} {Z : Nat → Prop} {B : Nat} {w : World} {v : Value} {ws : List WV} (h : PAcc T Z B w v ws) {g0 : Nat} {o : Obj} (hg0 : w.heap[g0]? = some o) (ho1 : ∀ cur, o ≠ .cells cur 43 (0, 0)) (ho2 : ∀ cur, o ≠ .cells cur 5 (0, 0)) : PAcc (fun g => if g = g0 then 0 else T g) (fun g => Z g ∨ g = g0) B w v ws := by
  have hne : ∀ g, 2 ≤ T g → g ≠ g0 := fun g hg e => by
    subst e
    obtain ⟨cur, hc⟩ := h.u8 g hg
    rw [hg0] at hc
    injection hc with hc
    exact ho2 _ hc
  refine ⟨h.row, fun g hg => ?_, fun i hi => ⟨(h.rows i hi).1.mono (fun g hg => ⟨?_, hg.2⟩), (h.rows i hi).2⟩, fun g hg => ?_, fun g hg => ?_⟩
  · show (if g = g0 then 0 else T g) = 1
    rw [if_neg (fun e => by subst e; exact tag_neD h.row hg0 ho1 hg)]
    exact h.tag g hg
  · show (if g = g0 then 0 else T g) = 2 + i
    rw [if_neg (hne g (by omega))]
    exact hg.1
  · show (if g = g0 then 0 else T g) = 0
    split
    · rfl
    · rename_i hx
      rcases hg with hg | hg
      · exact h.z g hg
      · exact absurd hg hx
  · by_cases e : g = g0
    · rw [if_pos e] at hg; omega
    · rw [if_neg e] at hg; exact h.u8 g hg
theorem PAcc.subZ {T : Nat → Nat} {Z Z' : Nat → Prop} {B : Nat} {w : World} {v : Value} {ws : List WV} (h : PAcc T Z B w v ws) (hz : ∀ g, Z' g → Z g) : PAcc T Z' B w v ws := ⟨h.row, h.tag, h.rows, fun g hg => h.z g (hz g hg), h.u8⟩
theorem own_tag {T : Nat → Nat} {B : Nat} {w : World} {ga gc n : Nat} {xs : List Int} (h : w.ownsRow B 5 1 (.slice (some ⟨ga, 0, none⟩) n gc) n (u8s xs)) (hT : T ga = 0) : Row .u8 (fun g => T g = 0 ∧ (B ≤ g ∧ g < w.heap.size)) w (some ⟨ga, 0, none⟩) n xs := by
  obtain ⟨a9, c9, e9, r9⟩ := owns_row h
  injection e9 with e9
  subst e9
  refine ⟨r9.1, r9.2.imp id ?_⟩
  rintro ⟨g, off, e, hg, hc⟩
  injection e with e
  injection e with e1 e2
  subst e1; subst e2
  exact ⟨ga, 0, rfl, ⟨hT, hg⟩, hc⟩

set_option maxRecDepth 100000 in
set_option maxHeartbeats 1000000 in
theorem diskWrite_spec (a p : Option Addr) (n ca m cp : Nat) (xs : List Int) (ws : List WV) (b : Int) (dx : Option Addr) (l lc : Nat) (X : List Int) (w : World) (ha : IRow .u8 w a n xs) (hp : PRead w p m ws) (hX : IRow .u8 w dx l X) (hca : n ≤ ca) (hn : n ≤ 2097152) (hm : m ≤ 2097152) (hl : l ≤ 2097152) (hb : (Lit.int .i64 b).wf = true) :
    Calls Try.prog 12 #[.agg #[.slice a n ca, .slice p m cp], .int .i64 b, .slice dx l lc] w fun e w' => SAns w w' e (dwX n xs (wVal ws) b l) (dwW n (wVal ws) b l X) := by
  obtain ⟨iw, hiw, hw0, hw1, hw2⟩ := info_parts infoWr
  have hb2 : ∀ (o o' : Obj), Below w.heap.size w ((w.alloc o).alloc o') := fun o o' => ((Below.refl _ w).alloc (Nat.le_refl _) _).alloc (by simp) _
  have hwl : Hid ((wVal ws).length = m) := by show _ = _; rw [wVal_len, hp.1]
  cases hvb : validB n (wVal ws)
  · have HD : Hid (dwB n (wVal ws) b l = false) := by show _ = false; simp [dwB, hvb]
    go_enter Try.func12, Try.ntmps12
    go_wp2_with fail
    refine (validDisk_spec _ _ _ _ _ _ ws _ (hp.below (hb2 _ _)) hn hm).mono ?_
    rintro e w1 ⟨rfl, hb1⟩
    rw [hvb]
    have hB : Below w.heap.size w w1 := (hb2 _ _).trans (hb1.mono (by simp; omega))
    have k0 := (hb1.block w.heap.size (by simp; omega)).trans (heap_alloc2_old w _ _)
    have k1 := (hb1.block (w.heap.size + 1) (by simp)).trans (heap_alloc2_new w _ _)
    obtain ⟨c1, c2, _, _⟩ := two_cells k0
    obtain ⟨p1, p2, p3, p4⟩ := two_cells k1
    have HBF : Hid (∀ u1 u2, Below w.heap.size w ((w1.setCell ⟨w.heap.size + 1, 0, none⟩ u1).setCell ⟨w.heap.size + 1, 1, none⟩ u2)) := fun u1 u2 => (hB.setCell (by show w.heap.size ≤ w.heap.size + 1; omega) _).setCell (by show w.heap.size ≤ w.heap.size + 1; omega) _
    clear ha hp hX hb1 k0 k1 hb2
    go_wp2
    refine bodyPost_ret (v := .agg #[.slice none 0 0, .slice none 0 0]) (by simp [results, Try.results12, go_sem, p1, p2]) rfl ?_
    simp only [dwX, dwW, HD.out]
    exact SAns.nil _ _ (HBF.out _ _)
  have hv : ValidV n (wVal ws) := (validB_iff _ _).1 hvb
  obtain ⟨nb, rfl⟩ : ∃ nb, n = nb * 64 := ⟨n / 64, by have := hv.1; omega⟩
  have hnb : 1 ≤ nb ∧ nb ≤ 1200 := by have h1 := hv.2.1; have h2 := hv.2.2.1; rw [Nat.mul_div_cancel _ (by decide)] at h1 h2; exact ⟨h1, h2⟩
  have hnd : ((nb * 64 : Nat) : Int) / 64 = (nb : Int) := by omega
  have hm4 : m ≤ 400 := by have := hv.2.2.2.1; have := hwl.out; omega
  obtain ⟨g, off, rfl⟩ : ∃ g off, a = some ⟨g, off, none⟩ := by
    rcases ha.2 with h | ⟨g, off, e, _⟩
    · omega
    · exact ⟨g, off, e⟩
  by_cases h4 : m = 400
  · have HD : Hid (dwB (nb * 64) (wVal ws) b l = false) := by show _ = false; simp [dwB, hwl.out, h4]
    have u1 : ((m : Int) == 400) = true := by simp; omega
    clear h4
    go_enter Try.func12, Try.ntmps12
    go_wp2_with fail
    refine (validDisk_spec _ _ _ _ _ _ ws _ (hp.below (hb2 _ _)) hn hm).mono ?_
    rintro e w1 ⟨rfl, hb1⟩
    rw [hvb]
    have hB : Below w.heap.size w w1 := (hb2 _ _).trans (hb1.mono (by simp; omega))
    have k0 := (hb1.block w.heap.size (by simp; omega)).trans (heap_alloc2_old w _ _)
    have k1 := (hb1.block (w.heap.size + 1) (by simp)).trans (heap_alloc2_new w _ _)
    obtain ⟨c1, c2, _, _⟩ := two_cells k0
    obtain ⟨p1, p2, p3, p4⟩ := two_cells k1
    have HBF : Hid (∀ u1 u2, Below w.heap.size w ((w1.setCell ⟨w.heap.size + 1, 0, none⟩ u1).setCell ⟨w.heap.size + 1, 1, none⟩ u2)) := fun u1 u2 => (hB.setCell (by show w.heap.size ≤ w.heap.size + 1; omega) _).setCell (by show w.heap.size ≤ w.heap.size + 1; omega) _
    clear ha hp hX hb1 k0 k1 hb2 hv
    go_wp2
    refine bodyPost_ret (v := .agg #[.slice none 0 0, .slice none 0 0]) (by simp [results, Try.results12, go_sem, p1, p2]) rfl ?_
    simp only [dwX, dwW, HD.out]
    exact SAns.nil _ _ (HBF.out _ _)
  have u1 : ((m : Int) == 400) = false := by simp; omega
  by_cases h0 : 0 ≤ b
  case neg =>
    have HD : Hid (dwB (nb * 64) (wVal ws) b l = false) := by show _ = false; simp [dwB, h0]
    have u2 : b < 0 := by omega
    go_enter Try.func12, Try.ntmps12
    go_wp2_with fail
    refine (validDisk_spec _ _ _ _ _ _ ws _ (hp.below (hb2 _ _)) hn hm).mono ?_
    rintro e w1 ⟨rfl, hb1⟩
    rw [hvb]
    have hB : Below w.heap.size w w1 := (hb2 _ _).trans (hb1.mono (by simp; omega))
    have k0 := (hb1.block w.heap.size (by simp; omega)).trans (heap_alloc2_old w _ _)
    have k1 := (hb1.block (w.heap.size + 1) (by simp)).trans (heap_alloc2_new w _ _)
    obtain ⟨c1, c2, _, _⟩ := two_cells k0
    obtain ⟨p1, p2, p3, p4⟩ := two_cells k1
    have HBF : Hid (∀ u1 u2, Below w.heap.size w ((w1.setCell ⟨w.heap.size + 1, 0, none⟩ u1).setCell ⟨w.heap.size + 1, 1, none⟩ u2)) := fun u1 u2 => (hB.setCell (by show w.heap.size ≤ w.heap.size + 1; omega) _).setCell (by show w.heap.size ≤ w.heap.size + 1; omega) _
    clear ha hp hX hb1 k0 k1 hb2 hv h4
    go_wp2
    refine bodyPost_ret (v := .agg #[.slice none 0 0, .slice none 0 0]) (by simp [results, Try.results12, go_sem, p1, p2]) rfl ?_
    simp only [dwX, dwW, HD.out]
    exact SAns.nil _ _ (HBF.out _ _)
  by_cases h1 : b < (nb : Int)
  case neg =>
    have HD : Hid (dwB (nb * 64) (wVal ws) b l = false) := by show _ = false; simp [dwB, hnd, h1]
    have u2 : ((nb * 64 : Nat) : Int) / 64 ≤ b := by omega
    go_enter Try.func12, Try.ntmps12
    go_wp2_with fail
    refine (validDisk_spec _ _ _ _ _ _ ws _ (hp.below (hb2 _ _)) hn hm).mono ?_
    rintro e w1 ⟨rfl, hb1⟩
    rw [hvb]
    have hB : Below w.heap.size w w1 := (hb2 _ _).trans (hb1.mono (by simp; omega))
    have k0 := (hb1.block w.heap.size (by simp; omega)).trans (heap_alloc2_old w _ _)
    have k1 := (hb1.block (w.heap.size + 1) (by simp)).trans (heap_alloc2_new w _ _)
    obtain ⟨c1, c2, _, _⟩ := two_cells k0
    obtain ⟨p1, p2, p3, p4⟩ := two_cells k1
    go_wp2_with fail
    refine (l1Blocks_any _ _ _ _ _ _ _ hn).mono ?_
    rintro e w1' ⟨rfl, hb1'⟩
    have k1' := (hb1'.block _ (Array.getElem?_eq_some_iff.1 k1).1).trans k1
    replace hB := hB.trans (hb1'.mono hB.size)
    obtain ⟨p1, p2, p3, p4⟩ := two_cells k1'
    rw [hnd]
    have u3 : (nb : Int) ≤ b := by omega
    have HBF : Hid (∀ u1 u2, Below w.heap.size w ((w1'.setCell ⟨w.heap.size + 1, 0, none⟩ u1).setCell ⟨w.heap.size + 1, 1, none⟩ u2)) := fun u1 u2 => (hB.setCell (by show w.heap.size ≤ w.heap.size + 1; omega) _).setCell (by show w.heap.size ≤ w.heap.size + 1; omega) _
    clear ha hp hX hb1 k0 k1 hb2 hv h4 hb1' k1'
    go_wp2
    refine bodyPost_ret (v := .agg #[.slice none 0 0, .slice none 0 0]) (by simp [results, Try.results12, go_sem, p1, p2]) rfl ?_
    simp only [dwX, dwW, HD.out]
    exact SAns.nil _ _ (HBF.out _ _)
  have u3 : ¬ ((nb : Int) ≤ b) := by omega
  by_cases h64 : l = 64
  case neg =>
    have HD : Hid (dwB (nb * 64) (wVal ws) b l = false) := by show _ = false; simp [dwB, h64]
    have u2 : ((l : Int) != 64) = true := by simp; omega
    go_enter Try.func12, Try.ntmps12
    go_wp2_with fail
    refine (validDisk_spec _ _ _ _ _ _ ws _ (hp.below (hb2 _ _)) hn hm).mono ?_
    rintro e w1 ⟨rfl, hb1⟩
    rw [hvb]
    have hB : Below w.heap.size w w1 := (hb2 _ _).trans (hb1.mono (by simp; omega))
    have k0 := (hb1.block w.heap.size (by simp; omega)).trans (heap_alloc2_old w _ _)
    have k1 := (hb1.block (w.heap.size + 1) (by simp)).trans (heap_alloc2_new w _ _)
    obtain ⟨c1, c2, _, _⟩ := two_cells k0
    obtain ⟨p1, p2, p3, p4⟩ := two_cells k1
    go_wp2_with fail
    refine (l1Blocks_any _ _ _ _ _ _ _ hn).mono ?_
    rintro e w1' ⟨rfl, hb1'⟩
    have k1' := (hb1'.block _ (Array.getElem?_eq_some_iff.1 k1).1).trans k1
    replace hB := hB.trans (hb1'.mono hB.size)
    obtain ⟨p1, p2, p3, p4⟩ := two_cells k1'
    rw [hnd]
    have HBF : Hid (∀ u1 u2, Below w.heap.size w ((w1'.setCell ⟨w.heap.size + 1, 0, none⟩ u1).setCell ⟨w.heap.size + 1, 1, none⟩ u2)) := fun u1 u2 => (hB.setCell (by show w.heap.size ≤ w.heap.size + 1; omega) _).setCell (by show w.heap.size ≤ w.heap.size + 1; omega) _
    clear ha hp hX hb1 k0 k1 hb2 hv h4 h64 hb1' k1'
    go_wp2
    refine bodyPost_ret (v := .agg #[.slice none 0 0, .slice none 0 0]) (by simp [results, Try.results12, go_sem, p1, p2]) rfl ?_
    simp only [dwX, dwW, HD.out]
    exact SAns.nil _ _ (HBF.out _ _)
  subst h64
  have HX : Hid (IRow .u8 w dx 64 X) := hX
  have HXl : Hid (X.length = 64) := hX.1
  have HA : Hid (IRow .u8 w (some ⟨g, off, none⟩) (nb * 64) xs) := ha
  have HP : Hid (PRead w p m ws) := hp
  have H64 : Hid (∀ i, i < m → wN ws i = 64) := fun i hi => by
    have hil : i < ws.length := by rw [hp.1]; exact hi
    have hok := hv.2.2.2.2 _ (List.getElem_mem (by rw [wVal_len]; exact hil))
    rw [wVal_at ws i hil] at hok
    rw [← (hp.2.2 i hi).1.1]
    exact hok.2.2
  have HD : Hid (dwB (nb * 64) (wVal ws) b 64 = true) := by
    show _ = true
    simp [dwB, hvb, hnd, hwl.out, h4, h0, h1]
  go_enter Try.func12, Try.ntmps12
  go_wp2_with fail
  refine (validDisk_spec _ _ _ _ _ _ ws _ (hp.below (hb2 _ _)) hn hm).mono ?_
  rintro e wz ⟨rfl, hbz⟩
  rw [hvb]
  have hB : Below w.heap.size w wz := (hb2 _ _).trans (hbz.mono (by simp; omega))
  have k0 := (hbz.block w.heap.size (by simp; omega)).trans (heap_alloc2_old w _ _)
  have k1 := (hbz.block (w.heap.size + 1) (by simp)).trans (heap_alloc2_new w _ _)
  obtain ⟨c1, c2, _, _⟩ := two_cells k0
  obtain ⟨p1, p2, p3, p4⟩ := two_cells k1
  go_wp2_with fail
  refine (l1Blocks_any _ _ _ _ _ _ _ hn).mono ?_
  rintro e w1 ⟨rfl, hb1'⟩
  have k1' := (hb1'.block _ (Array.getElem?_eq_some_iff.1 k1).1).trans k1
  have k0' := (hb1'.block _ (Array.getElem?_eq_some_iff.1 k0).1).trans k0
  replace hB := hB.trans (hb1'.mono hB.size)
  rw [hnd]
  clear c1 c2 p1 p2 p3 p4 hbz hb1' k0 k1 ha hp hX hv
  obtain ⟨c1, c2, _, _⟩ := two_cells k0'
  have HB1 : Hid (Below w.heap.size w w1) := hB
  have HK1 : Hid (w1.heap[w.heap.size + 1]? = some (.cells #[.slice none 0 0, .slice none 0 0] 33 (0, 0))) := k1'
  have sRl : w.heap.size + 1 < w1.heap.size := (Array.getElem?_eq_some_iff.1 k1').1
  clear k0' k1' hB hb2
  go_wp2_with fail
  refine (copyDisk_any g off (nb * 64) ca p m cp xs ws _ (HA.out.below HB1.out) (HP.out.below HB1.out) H64.out (by omega) hn hm4).mono ?_
  rintro e w2 ⟨T, vs, ga, gc, pa, pc, rfl, ho2, hp2, hl2, hw2', hb2⟩
  obtain ⟨WU, hWV⟩ : ∃ WU, w2.alloc (Obj.cells #[.slice (some ⟨ga, 0, none⟩) (nb * 64) gc, .slice pa m pc] 33) = WU := ⟨_, rfl⟩
  have bV : Below w2.heap.size w2 WU := by rw [← hWV]; exact (Below.refl _ w2).alloc (Nat.le_refl _) _
  have dV : WU.heap[w2.heap.size]? = some (.cells #[.slice (some ⟨ga, 0, none⟩) (nb * 64) gc, .slice pa m pc] 33 (0, 0)) := by rw [← hWV]; exact heap_alloc_new w2 _
  have rV : WU.heap[w.heap.size + 1]? = some (.cells #[.slice none 0 0, .slice none 0 0] 33 (0, 0)) := (bV.block _ (Nat.lt_of_lt_of_le sRl hb2.size)).trans ((hb2.block _ sRl).trans HK1.out)
  have pV := ((hp2.kept (Kept.of_below bV (fun _ => False)) (fun _ h => h.elim)).addZ rV (fun cur => cells_neD (by decide)) (fun cur => cells_neD (by decide))).addZ dV (fun cur => cells_neD (by decide)) (fun cur => cells_neD (by decide))
  have HPV : Hid (PAcc _ (fun g => g = w.heap.size + 1 ∨ g = w2.heap.size ∨ g = ga) w1.heap.size WU (.slice pa m pc) vs) := pV.subZ (fun g hg => by
    rcases hg with h | h | h
    · exact .inl (.inr h)
    · exact .inr h
    · exact .inl (.inl h))
  have HDV : Hid (WU.heap[w2.heap.size]? = some (.cells #[.slice (some ⟨ga, 0, none⟩) (nb * 64) gc, .slice pa m pc] 33 (0, 0))) := dV
  have HRV : Hid (WU.heap[w.heap.size + 1]? = some (.cells #[.slice none 0 0, .slice none 0 0] 33 (0, 0))) := rV
  have HOV : Hid (WU.ownsRow w1.heap.size 5 1 (.slice (some ⟨ga, 0, none⟩) (nb * 64) gc) (nb * 64) (u8s xs)) := row_kept ho2 (Kept.of_below bV (fun _ => False)) (fun _ _ => id)
  have HBV : Hid (Below w1.heap.size w1 WU) := hb2.trans (bV.mono hb2.size)
  have sR : w1.heap.size ≤ w1.heap.size := Nat.le_refl _
  have hvl : Hid (vs.length = m) := hl2
  have hvt : Hid (wVal vs = (wVal ws ++ [(b, X)]).take m) := by
    show _ = _
    rw [hw2', List.take_append_of_le_length (by have := hwl.out; omega), List.take_of_length_le (by have := hwl.out; omega)]
  have hxk : Hid ((wVal ws ++ [(b, X)])[m]? = some (b, X)) := by
    show _ = _
    rw [List.getElem?_append_right (by have := hwl.out; omega)]
    simp [hwl.out]
  have z2 := hb2.size
  have sV : w2.heap.size < WU.heap.size := (Array.getElem?_eq_some_iff.1 dV).1
  obtain ⟨d1, d2, d3, d4⟩ := two_cells dV
  have hXV := ((HX.out.below HB1.out).below HBV.out).below ((Below.refl _ WU).drew)
  clear ho2 hp2 hl2 hw2' hb2 bV dV rV pV c1 c2
  go_wp2
  try rw [hWV]
  clear hWV
  refine wp_region_held_drew (S := fun _ => True) (by kernel_rfl) trivial (fun _ => ?_)
  refine wpAnyH_take (i := 0) (v := .pointer (some ⟨w2.heap.size, 1, none⟩)) rfl (by kernel_rfl) (by kernel_rfl) (by kernel_rfl) (fun _ _ _ h => h) (Or.inl ⟨rfl, fun V hV => by go_simp⟩) trivial ?_
  refine wpAnyH_take (i := 2) (v := .int .i64 b) rfl (by kernel_rfl) (by kernel_rfl) (by kernel_rfl) (fun _ _ _ h => h) (Or.inl ⟨rfl, fun V hV => by go_simp⟩) trivial ?_
  refine wpAnyH_take (i := 3) (v := .slice dx 64 lc) rfl (by kernel_rfl) (by kernel_rfl) (by kernel_rfl) (fun _ _ _ h => h) (Or.inl ⟨rfl, fun V hV => by go_simp⟩) trivial ?_
  refine wpAnyH_ready (rs := [1, 4]) (by kernel_rfl) (by simp) (AllReadyH.cons rfl (fun K hK => ?_) (AllReadyH.cons rfl (fun K hK => ?_) AllReadyH.nil))
  · go_simp
    refine hK.out _ _ trivial (fun _ => ?_)
    clear hK K
    refine wpAnyH_ready (rs := [4]) (by kernel_rfl) (by simp) (AllReadyH.cons rfl (fun K hK => ?_) AllReadyH.nil)
    · go_simp
      refine (l1Copy_any _ _ _ X _ hXV (by omega)).mono ?_
      rintro e w5 ⟨s5, rfl, hown5, hb5⟩
      obtain ⟨gn, cn, rfl⟩ : ∃ gn cn, s5 = .slice (some ⟨gn, 0, none⟩) 64 cn := by
        rcases hown5.2 with ⟨_, h0⟩ | ⟨g', cap', cur, e, _⟩
        · omega
        · exact ⟨g', cap', e⟩
      have h5 : Hid (w5.ownsRow WU.heap.size 5 1 (.slice (some ⟨gn, 0, none⟩) 64 cn) 64 (u8s X) ∧ Below WU.heap.size WU w5) := ⟨hown5, (Below.refl _ WU).drew.trans hb5⟩
      have d5 : w5.cell? ⟨w2.heap.size, 1, none⟩ = some (.slice pa m pc) := (h5.out.2.cell (p := ⟨w2.heap.size, 1, none⟩) sV).trans d2
      have lt5 : w2.heap.size < w5.heap.size := World.block_lt_of_cell? w5 _ d5
      have hrow5 : Hid ((w5.alloc (Obj.cells #[.int .i64 b, .slice (some ⟨gn, 0, none⟩) 64 cn] 43)).ownsRow w1.heap.size 43 2 (.slice pa m pc) m (wvL vs)) := by
        show World.ownsRow _ _ _ _ _ _ _
        have := HPV.out.row
        rw [hvl.out] at this
        exact (row_kept this (Kept.of_below h5.out.2 (fun _ => False)) (fun _ _ => id)).alloc _
      clear hown5 hb5
      go_simp
      refine hK.out _ _ trivial (fun _ => ?_)
      clear hK K
      refine wpAnyH_take (i := 5) (v := .agg #[.int .i64 b, .slice (some ⟨gn, 0, none⟩) 64 cn]) rfl (by kernel_rfl) (by kernel_rfl) (by kernel_rfl) (fun _ _ _ h => h) (Or.inl ⟨rfl, fun V hV => by go_simp⟩) trivial ?_
      refine wpAnyH_ready (rs := [6]) (by kernel_rfl) (by simp) (AllReadyH.cons rfl (fun K hK => ?_) AllReadyH.nil)
      go_simp
      refine hK.out _ _ trivial (fun _ => ?_)
      clear hK K
      refine wpAnyH_ready (rs := [7]) (by kernel_rfl) (by simp) (AllReadyH.cons rfl (fun K hK => ?_) AllReadyH.nil)
      refine if_wanted rfl (wp_append_own _ (.tmp 36) (.tmp 41) 31 rfl w1.heap.size 43 iw (.agg #[.int .i64 0, .slice none 0 0]) 2 32 Try.underlying31 hiw hw0 hw1 hw2 rfl (by decide) (.slice pa m pc) m (wvL vs) rfl hrow5.out ⟨w5.heap.size, 0, none⟩ 1 1 [.int .i64 b, .slice (some ⟨gn, 0, none⟩) 64 cn] rfl rfl (two_new w5 _ _ _) (two_one _ _) (by unfold maxLen; omega) (by omega) (by have := h5.out.2.size; simp; omega) (fun v' w6 hown6 hg6 _ => ?_))
      obtain ⟨g', cap', rfl⟩ : ∃ g' cap', v' = .slice (some ⟨g', 0, none⟩) (m + 1) cap' := by
        rcases hown6.2 with ⟨_, h0⟩ | ⟨g', cap', cur, e, _⟩
        · omega
        · exact ⟨g', cap', e⟩
      obtain ⟨T', hd6, f1, f2, f3, f4, f5, f6, _⟩ := acc_step (ws := wVal ws ++ [(b, X)]) (x := (b, X)) (hd := HDV.out) (hn := HRV.out) HOV.out HPV.out HBV.out (by omega) (by omega) h5.out.1 h5.out.2 hg6 hown6 hvl.out hvt.out hxk.out HXl.out
      obtain ⟨m1, m2, m3, m4⟩ := two_cells hd6
      obtain ⟨n1, n2, n3, n4⟩ := two_cells f1.out
      obtain ⟨p1, p2, p3, p4⟩ := two_cells f2.out
      have hD7 : DAt T' w1.heap.size (w6.setCell ⟨w2.heap.size, 1, none⟩ (.slice (some ⟨g', 0, none⟩) (m + 1) cap')) (some ⟨ga, 0, none⟩) (nb * 64) gc (some ⟨g', 0, none⟩) (m + 1) cap' (vs ++ [(⟨b, some ⟨gn, 0, none⟩, 64, cn, X⟩ : WV)]) xs (wVal ws ++ [(b, X)]) := by
        refine ⟨f3.out, f4.out.subZ (fun g hg => .inr (.inr (by simpa [Value.ownBlock] using hg.symm))), f6.out.1, ?_, by omega, by omega⟩
        have := f6.out.2; rwa [List.take_of_length_le (by have := hwl.out; simp; omega)] at this
      have HBF : Hid (Below w.heap.size w (w6.setCell ⟨w2.heap.size, 1, none⟩ (.slice (some ⟨g', 0, none⟩) (m + 1) cap'))) := HB1.out.trans (f5.out.mono HB1.out.size)
      have hF := fun u1 u2 => SAns.stored (w := w) hD7 sRl (by omega) HBF.out u1 u2
      have HF := Hid.out hF
      refine hK.out _ _ trivial (fun _ => ?_)
      clear hK K hown6 hg6 hd6 f1 f2 f3 f4 f5 f6 hrow5 h5 hF hD7 HBF
      refine wpAnyH_take (i := 8) (v := .pointer (some ⟨w2.heap.size, 1, none⟩)) rfl (by kernel_rfl) (by kernel_rfl) (by kernel_rfl) (fun _ _ _ h => h) (Or.inl ⟨rfl, fun V hV => by go_simp⟩) trivial ?_
      refine wpAnyH_ready (rs := [9]) (by kernel_rfl) (by simp) (AllReadyH.cons rfl (fun K hK => ?_) AllReadyH.nil)
      go_simp
      refine hK.out _ _ trivial (fun _ => ?_)
      refine wpAnyH_done (by kernel_rfl) ?_ _
      clear hK K
      go_wp2
      refine bodyPost_ret (v := .agg #[.slice (some ⟨ga, 0, none⟩) (nb * 64) gc, .slice (some ⟨g', 0, none⟩) (m + 1) cap']) (by simp [results, Try.results12, go_sem, p1, p2]) rfl ?_
      simp only [dwX, dwW, HD.out, if_true]
      exact HF _ _
  · · go_simp
      refine (l1Copy_any _ _ _ X _ hXV (by omega)).mono ?_
      rintro e w5 ⟨s5, rfl, hown5, hb5⟩
      obtain ⟨gn, cn, rfl⟩ : ∃ gn cn, s5 = .slice (some ⟨gn, 0, none⟩) 64 cn := by
        rcases hown5.2 with ⟨_, h0⟩ | ⟨g', cap', cur, e, _⟩
        · omega
        · exact ⟨g', cap', e⟩
      have h5 : Hid (w5.ownsRow WU.heap.size 5 1 (.slice (some ⟨gn, 0, none⟩) 64 cn) 64 (u8s X) ∧ Below WU.heap.size WU w5) := ⟨hown5, (Below.refl _ WU).drew.trans hb5⟩
      have d5 : w5.cell? ⟨w2.heap.size, 1, none⟩ = some (.slice pa m pc) := (h5.out.2.cell (p := ⟨w2.heap.size, 1, none⟩) sV).trans d2
      have lt5 : w2.heap.size < w5.heap.size := World.block_lt_of_cell? w5 _ d5
      have hrow5 : Hid ((w5.alloc (Obj.cells #[.int .i64 b, .slice (some ⟨gn, 0, none⟩) 64 cn] 43)).ownsRow w1.heap.size 43 2 (.slice pa m pc) m (wvL vs)) := by
        show World.ownsRow _ _ _ _ _ _ _
        have := HPV.out.row
        rw [hvl.out] at this
        exact (row_kept this (Kept.of_below h5.out.2 (fun _ => False)) (fun _ _ => id)).alloc _
      clear hown5 hb5
      go_simp
      refine hK.out _ _ trivial (fun _ => ?_)
      clear hK K
      refine wpAnyH_take (i := 5) (v := .agg #[.int .i64 b, .slice (some ⟨gn, 0, none⟩) 64 cn]) rfl (by kernel_rfl) (by kernel_rfl) (by kernel_rfl) (fun _ _ _ h => h) (Or.inl ⟨rfl, fun V hV => by go_simp⟩) trivial ?_
      refine wpAnyH_ready (rs := [1, 6]) (by kernel_rfl) (by simp) (AllReadyH.cons rfl (fun K hK => ?_) (AllReadyH.cons rfl (fun K hK => ?_) AllReadyH.nil))
      · go_simp
        refine hK.out _ _ trivial (fun _ => ?_)
        clear hK K
        refine wpAnyH_ready (rs := [6]) (by kernel_rfl) (by simp) (AllReadyH.cons rfl (fun K hK => ?_) AllReadyH.nil)
        go_simp
        refine hK.out _ _ trivial (fun _ => ?_)
        clear hK K
        refine wpAnyH_ready (rs := [7]) (by kernel_rfl) (by simp) (AllReadyH.cons rfl (fun K hK => ?_) AllReadyH.nil)
        refine if_wanted rfl (wp_append_own _ (.tmp 36) (.tmp 41) 31 rfl w1.heap.size 43 iw (.agg #[.int .i64 0, .slice none 0 0]) 2 32 Try.underlying31 hiw hw0 hw1 hw2 rfl (by decide) (.slice pa m pc) m (wvL vs) rfl hrow5.out ⟨w5.heap.size, 0, none⟩ 1 1 [.int .i64 b, .slice (some ⟨gn, 0, none⟩) 64 cn] rfl rfl (two_new w5 _ _ _) (two_one _ _) (by unfold maxLen; omega) (by omega) (by have := h5.out.2.size; simp; omega) (fun v' w6 hown6 hg6 _ => ?_))
        obtain ⟨g', cap', rfl⟩ : ∃ g' cap', v' = .slice (some ⟨g', 0, none⟩) (m + 1) cap' := by
          rcases hown6.2 with ⟨_, h0⟩ | ⟨g', cap', cur, e, _⟩
          · omega
          · exact ⟨g', cap', e⟩
        obtain ⟨T', hd6, f1, f2, f3, f4, f5, f6, _⟩ := acc_step (ws := wVal ws ++ [(b, X)]) (x := (b, X)) (hd := HDV.out) (hn := HRV.out) HOV.out HPV.out HBV.out (by omega) (by omega) h5.out.1 h5.out.2 hg6 hown6 hvl.out hvt.out hxk.out HXl.out
        obtain ⟨m1, m2, m3, m4⟩ := two_cells hd6
        obtain ⟨n1, n2, n3, n4⟩ := two_cells f1.out
        obtain ⟨p1, p2, p3, p4⟩ := two_cells f2.out
        have hD7 : DAt T' w1.heap.size (w6.setCell ⟨w2.heap.size, 1, none⟩ (.slice (some ⟨g', 0, none⟩) (m + 1) cap')) (some ⟨ga, 0, none⟩) (nb * 64) gc (some ⟨g', 0, none⟩) (m + 1) cap' (vs ++ [(⟨b, some ⟨gn, 0, none⟩, 64, cn, X⟩ : WV)]) xs (wVal ws ++ [(b, X)]) := by
          refine ⟨f3.out, f4.out.subZ (fun g hg => .inr (.inr (by simpa [Value.ownBlock] using hg.symm))), f6.out.1, ?_, by omega, by omega⟩
          have := f6.out.2; rwa [List.take_of_length_le (by have := hwl.out; simp; omega)] at this
        have HBF : Hid (Below w.heap.size w (w6.setCell ⟨w2.heap.size, 1, none⟩ (.slice (some ⟨g', 0, none⟩) (m + 1) cap'))) := HB1.out.trans (f5.out.mono HB1.out.size)
        have hF := fun u1 u2 => SAns.stored (w := w) hD7 sRl (by omega) HBF.out u1 u2
        have HF := Hid.out hF
        refine hK.out _ _ trivial (fun _ => ?_)
        clear hK K hown6 hg6 hd6 f1 f2 f3 f4 f5 f6 hrow5 h5 hF hD7 HBF
        refine wpAnyH_take (i := 8) (v := .pointer (some ⟨w2.heap.size, 1, none⟩)) rfl (by kernel_rfl) (by kernel_rfl) (by kernel_rfl) (fun _ _ _ h => h) (Or.inl ⟨rfl, fun V hV => by go_simp⟩) trivial ?_
        refine wpAnyH_ready (rs := [9]) (by kernel_rfl) (by simp) (AllReadyH.cons rfl (fun K hK => ?_) AllReadyH.nil)
        go_simp
        refine hK.out _ _ trivial (fun _ => ?_)
        refine wpAnyH_done (by kernel_rfl) ?_ _
        clear hK K
        go_wp2
        refine bodyPost_ret (v := .agg #[.slice (some ⟨ga, 0, none⟩) (nb * 64) gc, .slice (some ⟨g', 0, none⟩) (m + 1) cap']) (by simp [results, Try.results12, go_sem, p1, p2]) rfl ?_
        simp only [dwX, dwW, HD.out, if_true]
        exact HF _ _
      · go_simp
        refine hK.out _ _ trivial (fun _ => ?_)
        clear hK K
        refine wpAnyH_ready (rs := [1]) (by kernel_rfl) (by simp) (AllReadyH.cons rfl (fun K hK => ?_) AllReadyH.nil)
        go_simp
        refine hK.out _ _ trivial (fun _ => ?_)
        clear hK K
        refine wpAnyH_ready (rs := [7]) (by kernel_rfl) (by simp) (AllReadyH.cons rfl (fun K hK => ?_) AllReadyH.nil)
        refine if_wanted rfl (wp_append_own _ (.tmp 36) (.tmp 41) 31 rfl w1.heap.size 43 iw (.agg #[.int .i64 0, .slice none 0 0]) 2 32 Try.underlying31 hiw hw0 hw1 hw2 rfl (by decide) (.slice pa m pc) m (wvL vs) rfl hrow5.out ⟨w5.heap.size, 0, none⟩ 1 1 [.int .i64 b, .slice (some ⟨gn, 0, none⟩) 64 cn] rfl rfl (two_new w5 _ _ _) (two_one _ _) (by unfold maxLen; omega) (by omega) (by have := h5.out.2.size; simp; omega) (fun v' w6 hown6 hg6 _ => ?_))
        obtain ⟨g', cap', rfl⟩ : ∃ g' cap', v' = .slice (some ⟨g', 0, none⟩) (m + 1) cap' := by
          rcases hown6.2 with ⟨_, h0⟩ | ⟨g', cap', cur, e, _⟩
          · omega
          · exact ⟨g', cap', e⟩
        obtain ⟨T', hd6, f1, f2, f3, f4, f5, f6, _⟩ := acc_step (ws := wVal ws ++ [(b, X)]) (x := (b, X)) (hd := HDV.out) (hn := HRV.out) HOV.out HPV.out HBV.out (by omega) (by omega) h5.out.1 h5.out.2 hg6 hown6 hvl.out hvt.out hxk.out HXl.out
        obtain ⟨m1, m2, m3, m4⟩ := two_cells hd6
        obtain ⟨n1, n2, n3, n4⟩ := two_cells f1.out
        obtain ⟨p1, p2, p3, p4⟩ := two_cells f2.out
        have hD7 : DAt T' w1.heap.size (w6.setCell ⟨w2.heap.size, 1, none⟩ (.slice (some ⟨g', 0, none⟩) (m + 1) cap')) (some ⟨ga, 0, none⟩) (nb * 64) gc (some ⟨g', 0, none⟩) (m + 1) cap' (vs ++ [(⟨b, some ⟨gn, 0, none⟩, 64, cn, X⟩ : WV)]) xs (wVal ws ++ [(b, X)]) := by
          refine ⟨f3.out, f4.out.subZ (fun g hg => .inr (.inr (by simpa [Value.ownBlock] using hg.symm))), f6.out.1, ?_, by omega, by omega⟩
          have := f6.out.2; rwa [List.take_of_length_le (by have := hwl.out; simp; omega)] at this
        have HBF : Hid (Below w.heap.size w (w6.setCell ⟨w2.heap.size, 1, none⟩ (.slice (some ⟨g', 0, none⟩) (m + 1) cap'))) := HB1.out.trans (f5.out.mono HB1.out.size)
        have hF := fun u1 u2 => SAns.stored (w := w) hD7 sRl (by omega) HBF.out u1 u2
        have HF := Hid.out hF
        refine hK.out _ _ trivial (fun _ => ?_)
        clear hK K hown6 hg6 hd6 f1 f2 f3 f4 f5 f6 hrow5 h5 hF hD7 HBF
        refine wpAnyH_take (i := 8) (v := .pointer (some ⟨w2.heap.size, 1, none⟩)) rfl (by kernel_rfl) (by kernel_rfl) (by kernel_rfl) (fun _ _ _ h => h) (Or.inl ⟨rfl, fun V hV => by go_simp⟩) trivial ?_
        refine wpAnyH_ready (rs := [9]) (by kernel_rfl) (by simp) (AllReadyH.cons rfl (fun K hK => ?_) AllReadyH.nil)
        go_simp
        refine hK.out _ _ trivial (fun _ => ?_)
        refine wpAnyH_done (by kernel_rfl) ?_ _
        clear hK K
        go_wp2
        refine bodyPost_ret (v := .agg #[.slice (some ⟨ga, 0, none⟩) (nb * 64) gc, .slice (some ⟨g', 0, none⟩) (m + 1) cap']) (by simp [results, Try.results12, go_sem, p1, p2]) rfl ?_
        simp only [dwX, dwW, HD.out, if_true]
        exact HF _ _
end Go.Proofs.Ytkkammbfomiofaa
