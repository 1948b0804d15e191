/-
  DiskWrite: the specification's and the program's.
-/
import Derived.Test.YtkkammbfomiofaaCpd
namespace Go.Proofs.Ytkkammbfomiofaa
open Go.RowKit
set_option linter.unusedSimpArgs false
set_option linter.unusedVariables false

/-- Does DiskWrite write? -/
def dwB (n : Nat) (val : List (Int × List Int)) (b : Int) (l : Nat) : Bool := validB n val && (decide (val.length ≠ 400) && (decide (0 ≤ b) && (decide (b < (n : Int) / 64) && decide (l = 64))))
/-- The bytes and the writes that DiskWrite answers. -/
def dwX (n : Nat) (xs : List Int) (val : List (Int × List Int)) (b : Int) (l : Nat) : List Int := if dwB n val b l then xs else []
def dwW (n : Nat) (val : List (Int × List Int)) (b : Int) (l : Nat) (X : List Int) : List (Int × List Int) := if dwB n val b l then val ++ [(b, X)] else []

/-- An answer that is a disk of its own. -/
def DAns (w w' : World) (e : Ending) (xs : List Int) (val : List (Int × List Int)) : Prop :=
  ∃ T vs a n ca p m cp, e = .returned (.agg #[.slice a n ca, .slice p m cp]) ∧ DOwn T w.heap.size w'.heap.size w' a n xs p m vs ∧ wVal vs = val ∧ n ≤ ca ∧ Below w.heap.size w w'

theorem DAns.nil (w w' : World) (hb : Below w.heap.size w w') : DAns w w' (.returned (.agg #[.slice none 0 0, .slice none 0 0])) [] [] :=
  ⟨fun _ => 0, [], none, 0, 0, none, 0, 0, rfl, ⟨⟨rfl, .inl rfl⟩, ⟨rfl, .inl rfl, fun i hi => absurd hi (by omega)⟩, by omega, by omega, Nat.le_refl _⟩, rfl, Nat.le_refl _, hb⟩
theorem DOwn.wide {T : Nat → Nat} {lo hi lo' hi' : Nat} {w : World} {a : Option Addr} {n : Nat} {xs : List Int} {p : Option Addr} {m : Nat} {ws : List WV} (h : DOwn T lo hi w a n xs p m ws) (h1 : lo' ≤ lo) (h2 : hi ≤ hi') (h3 : hi' ≤ w.heap.size) : DOwn T lo' hi' w a n xs p m ws :=
  ⟨h.dur.mono (fun g hg => ⟨hg.1, by omega, by omega⟩), h.pend.retag (fun g _ => rfl) (fun g hg => ⟨by omega, by omega⟩), h.dn, h.dm, h3⟩
/-- Behind the two stores into the answer's variable. -/
theorem DOwn.stored {T : Nat → Nat} {lo : Nat} {w w' : World} {R : Nat} {a : Option Addr} {n : Nat} {xs : List Int} {p : Option Addr} {m : Nat} {ws : List WV} (h : DOwn T lo w'.heap.size w' a n xs p m ws) (hR : R < lo) (h1 : w.heap.size ≤ R) (hB : Below w.heap.size w w') (u1 u2 : Value) :
    DOwn T w.heap.size ((w'.setCell ⟨R, 0, none⟩ u1).setCell ⟨R, 1, none⟩ u2).heap.size ((w'.setCell ⟨R, 0, none⟩ u1).setCell ⟨R, 1, none⟩ u2) a n xs p m ws ∧ Below w.heap.size w ((w'.setCell ⟨R, 0, none⟩ u1).setCell ⟨R, 1, none⟩ u2) := by
  have ks : Kept (fun g => g = R) w' ((w'.setCell ⟨R, 0, none⟩ u1).setCell ⟨R, 1, none⟩ u2) := (Kept.setCell w' ⟨R, 0, none⟩ u1 (fun g => g = R) rfl).trans (Kept.setCell _ ⟨R, 1, none⟩ u2 (fun g => g = R) rfl)
  have hsz := ks.size
  exact ⟨(h.kept ks (fun g h1 h2 h3 => by omega)).wide (by omega) hsz (Nat.le_refl _), (hB.setCell h1 _).setCell h1 _⟩

set_option maxRecDepth 100000 in
set_option maxHeartbeats 600000 in
theorem diskWrite_impl (a p : Option Addr) (n ca m cp : Nat) (xs : List Int) (ws : List WV) (b : Int) (dx : Option Addr) (l lc : Nat) (X : List Int) (w : World) (ha : IRow .u8 w a n xs) (hp : PRead w p m ws) (hX : IRow .u8 w dx l X) (hca : n ≤ ca) (hn : n ≤ 2097152) (hm : m ≤ 2097152) (hl : l ≤ 2097152) (hb : (Lit.int .i64 b).wf = true) :
    Calls Try.prog 11 #[.agg #[.slice a n ca, .slice p m cp], .int .i64 b, .slice dx l lc] w fun e w' => DAns w w' e (dwX n xs (wVal ws) b l) (dwW n (wVal ws) b l X) := by
  have hb2 : ∀ (o o' : Obj), Below w.heap.size w ((w.alloc o).alloc o') := fun o o' => ((Below.refl _ w).alloc (Nat.le_refl _) _).alloc (by simp) _
  have hwl : Hid ((wVal ws).length = m) := by show _ = _; rw [wVal_len, hp.1]
  cases hvb : validB n (wVal ws)
  · have HD : Hid (dwB n (wVal ws) b l = false) := by show _ = false; simp [dwB, hvb]
    go_enter Try.func11, Try.ntmps11
    go_wp2_with fail
    refine (validDisk_impl _ _ _ _ _ _ ws _ (hp.below (hb2 _ _)) hn hm).mono ?_
    rintro e w1 ⟨rfl, hb1⟩
    rw [hvb]
    have hB : Below w.heap.size w w1 := (hb2 _ _).trans (hb1.mono (by simp; omega))
    have k0 := (hb1.block w.heap.size (by simp; omega)).trans (heap_alloc2_old w _ _)
    have k1 := (hb1.block (w.heap.size + 1) (by simp)).trans (heap_alloc2_new w _ _)
    obtain ⟨c1, c2, _, _⟩ := two_cells k0
    obtain ⟨p1, p2, p3, p4⟩ := two_cells k1
    have HBF : Hid (∀ u1 u2, Below w.heap.size w ((w1.setCell ⟨w.heap.size + 1, 0, none⟩ u1).setCell ⟨w.heap.size + 1, 1, none⟩ u2)) := fun u1 u2 => (hB.setCell (by show w.heap.size ≤ w.heap.size + 1; omega) _).setCell (by show w.heap.size ≤ w.heap.size + 1; omega) _
    clear ha hp hX hb1 k0 k1 hb2
    go_wp2
    refine bodyPost_ret (v := .agg #[.slice none 0 0, .slice none 0 0]) (by simp [results, Try.results11, go_sem, p1, p2]) rfl ?_
    simp only [dwX, dwW, HD.out]
    exact DAns.nil _ _ (HBF.out _ _)
  have hv : ValidV n (wVal ws) := (validB_iff _ _).1 hvb
  obtain ⟨nb, rfl⟩ : ∃ nb, n = nb * 64 := ⟨n / 64, by have := hv.1; omega⟩
  have hnb : 1 ≤ nb ∧ nb ≤ 1200 := by have h1 := hv.2.1; have h2 := hv.2.2.1; rw [Nat.mul_div_cancel _ (by decide)] at h1 h2; exact ⟨h1, h2⟩
  have hnd : ((nb * 64 : Nat) : Int) / 64 = (nb : Int) := by omega
  have hm4 : m ≤ 400 := by have := hv.2.2.2.1; have := hwl.out; omega
  obtain ⟨g, off, rfl⟩ : ∃ g off, a = some ⟨g, off, none⟩ := by
    rcases ha.2 with h | ⟨g, off, e, _⟩
    · omega
    · exact ⟨g, off, e⟩
  by_cases h4 : m = 400
  · have HD : Hid (dwB (nb * 64) (wVal ws) b l = false) := by show _ = false; simp [dwB, hwl.out, h4]
    have u1 : ((m : Int) == 400) = true := by simp; omega
    clear h4
    go_enter Try.func11, Try.ntmps11
    go_wp2_with fail
    refine (validDisk_impl _ _ _ _ _ _ ws _ (hp.below (hb2 _ _)) hn hm).mono ?_
    rintro e w1 ⟨rfl, hb1⟩
    rw [hvb]
    have hB : Below w.heap.size w w1 := (hb2 _ _).trans (hb1.mono (by simp; omega))
    have k0 := (hb1.block w.heap.size (by simp; omega)).trans (heap_alloc2_old w _ _)
    have k1 := (hb1.block (w.heap.size + 1) (by simp)).trans (heap_alloc2_new w _ _)
    obtain ⟨c1, c2, _, _⟩ := two_cells k0
    obtain ⟨p1, p2, p3, p4⟩ := two_cells k1
    have HBF : Hid (∀ u1 u2, Below w.heap.size w ((w1.setCell ⟨w.heap.size + 1, 0, none⟩ u1).setCell ⟨w.heap.size + 1, 1, none⟩ u2)) := fun u1 u2 => (hB.setCell (by show w.heap.size ≤ w.heap.size + 1; omega) _).setCell (by show w.heap.size ≤ w.heap.size + 1; omega) _
    clear ha hp hX hb1 k0 k1 hb2 hv
    go_wp2
    refine bodyPost_ret (v := .agg #[.slice none 0 0, .slice none 0 0]) (by simp [results, Try.results11, go_sem, p1, p2]) rfl ?_
    simp only [dwX, dwW, HD.out]
    exact DAns.nil _ _ (HBF.out _ _)
  have u1 : ((m : Int) == 400) = false := by simp; omega
  by_cases h64 : l = 64
  case neg =>
    have HD : Hid (dwB (nb * 64) (wVal ws) b l = false) := by show _ = false; simp [dwB, h64]
    have u2 : ((l : Int) != 64) = true := by simp; omega
    go_enter Try.func11, Try.ntmps11
    go_wp2_with fail
    refine (validDisk_impl _ _ _ _ _ _ ws _ (hp.below (hb2 _ _)) hn hm).mono ?_
    rintro e w1 ⟨rfl, hb1⟩
    rw [hvb]
    have hB : Below w.heap.size w w1 := (hb2 _ _).trans (hb1.mono (by simp; omega))
    have k0 := (hb1.block w.heap.size (by simp; omega)).trans (heap_alloc2_old w _ _)
    have k1 := (hb1.block (w.heap.size + 1) (by simp)).trans (heap_alloc2_new w _ _)
    obtain ⟨c1, c2, _, _⟩ := two_cells k0
    obtain ⟨p1, p2, p3, p4⟩ := two_cells k1
    have HBF : Hid (∀ u1 u2, Below w.heap.size w ((w1.setCell ⟨w.heap.size + 1, 0, none⟩ u1).setCell ⟨w.heap.size + 1, 1, none⟩ u2)) := fun u1 u2 => (hB.setCell (by show w.heap.size ≤ w.heap.size + 1; omega) _).setCell (by show w.heap.size ≤ w.heap.size + 1; omega) _
    clear ha hp hX hb1 k0 k1 hb2 hv h4 h64
    go_wp2
    refine bodyPost_ret (v := .agg #[.slice none 0 0, .slice none 0 0]) (by simp [results, Try.results11, go_sem, p1, p2]) rfl ?_
    simp only [dwX, dwW, HD.out]
    exact DAns.nil _ _ (HBF.out _ _)
  subst h64
  obtain ⟨hXl, hX2⟩ := hX
  have HXl : Hid (X.length = 64) := hXl
  obtain ⟨gx, ox, rfl, hXc⟩ : ∃ gx ox, dx = some ⟨gx, ox, none⟩ ∧ ∀ i, i < 64 → w.cell? ⟨gx, ox + i, none⟩ = some (.int .u8 (X[i]?.getD 0)) := by
    rcases hX2 with h | ⟨gx, ox, e, hc⟩
    · omega
    · exact ⟨gx, ox, e, hc⟩
  have lgx : gx < w.heap.size := World.block_lt_of_cell? w _ (hXc 0 (by omega))
  have rngw : w.rangeAt gx ox (u8s X) := fun j v hv => by
    have hj : j < 64 := by have := (List.getElem?_eq_some_iff.1 hv).1; rw [u8s_len, hXl] at this; exact this
    rw [hXc j hj, ← hv]
    simp [u8s, List.getElem?_eq_getElem (show j < X.length by omega)]
  have HRW : Hid (w.rangeAt gx ox (u8s X)) := rngw
  have HV : Hid (ValidV (nb * 64) (wVal ws)) := hv
  have HA : Hid (IRow .u8 w (some ⟨g, off, none⟩) (nb * 64) xs) := ha
  have HP : Hid (PRead w p m ws) := hp
  have HDD : Hid (dwB (nb * 64) (wVal ws) b 64 = decide (0 ≤ b ∧ b < (nb : Int))) := by
    show _ = _
    simp [dwB, hvb, hnd, hwl.out, h4]
  clear hXl
  go_enter Try.func11, Try.ntmps11
  go_wp2_with fail
  refine (validDisk_impl _ _ _ _ _ _ ws _ (hp.below (hb2 _ _)) hn hm).mono ?_
  rintro e w1 ⟨rfl, hb1⟩
  rw [hvb]
  have hB : Below w.heap.size w w1 := (hb2 _ _).trans (hb1.mono (by simp; omega))
  have k0 := (hb1.block w.heap.size (by simp; omega)).trans (heap_alloc2_old w _ _)
  have k1 := (hb1.block (w.heap.size + 1) (by simp)).trans (heap_alloc2_new w _ _)
  obtain ⟨c1, c2, _, _⟩ := two_cells k0
  obtain ⟨p1, p2, p3, p4⟩ := two_cells k1
  have HB1 : Hid (Below w.heap.size w w1) := hB
  have HK1 : Hid (w1.heap[w.heap.size + 1]? = some (.cells #[.slice none 0 0, .slice none 0 0] 33 (0, 0))) := k1
  have s1 : w.heap.size + 1 < w1.heap.size := (Array.getElem?_eq_some_iff.1 k1).1
  clear ha hp hv hb1 k0 k1 hb2 hXc rngw hB p1 p2 p3 p4
  go_wp2_with fail
  refine (openDisk_any g off nb ca p m cp xs ws _ (HA.out.below HB1.out) hca (HP.out.below HB1.out) HV.out).mono ?_
  rintro e w2 ⟨C, dv, wa, wc, M, D, rfl, hcd, hb2⟩
  obtain ⟨da, dc, rfl⟩ := owns_shape hcd.dur
  have HB2 : Hid (Below w.heap.size w w2) := HB1.out.trans (hb2.mono HB1.out.size)
  have HK2 : Hid (w2.heap[w.heap.size + 1]? = some (.cells #[.slice none 0 0, .slice none 0 0] 33 (0, 0))) := (hb2.block _ s1).trans HK1.out
  have z2 := hb2.size
  have hCw : w1.heap.size ≤ C := hcd.hC
  have hMw : w1.heap.size ≤ M := hcd.hM
  have hwv : ∀ q, (Value.slice wa (wVal ws).length wc).ownBlock = some q → w1.heap.size ≤ q := fun q hq => (hcd.wr.lt q hq).1
  have HWV := Hid.out hwv
  clear hb2 c1 c2 hwv
  by_cases hbb : 0 ≤ b ∧ b < (nb : Int)
  · have u3 : decide (0 ≤ b ∧ b < (nb : Int)) = true := by simp [hbb]
    have HD : Hid (dwB (nb * 64) (wVal ws) b 64 = true) := by show _ = true; rw [HDD.out]; exact u3
    go_wp2_with fail
    refine (hasBlock_any _ _ _ _ _ _ _ _ _ _ b w2 hcd).mono ?_
    rintro e w3 ⟨rfl, hw⟩
    have hw' := hw.symm
    subst hw'
    rw [u3]
    have harr := fun V => arr_at V gx ox lc
    have rng : w2.rangeAt gx ox (u8s X) := range_block HRW.out (HB2.out.block gx lgx)
    go_wp2_with (refine wpList_load_mid rfl 60 _ rfl gx ox rfl (u8s X) _ rng Try.underlying60 rfl (by rw [u8s_len, HXl.out]; exact infoBB) ?_)
    refine (cwrite_any _ _ _ _ _ _ _ _ _ _ b X _ hcd HXl.out hb (by have := hwl.out; omega) (by omega)).mono ?_
    rintro e w4 ⟨⟨v, rfl⟩, wa', wc', D', hcd4, hk4⟩
    have HB4 : Hid (Below w.heap.size w w4) := HB2.out.trans (hk4.below (by omega) (fun q hq => by
      rcases hq with rfl | rfl | hq
      · omega
      · omega
      · have := HWV q hq; omega))
    have HK4 : Hid (w4.heap[w.heap.size + 1]? = some (.cells #[.slice none 0 0, .slice none 0 0] 33 (0, 0))) := (hk4.block _ (by omega) (fun hq => by
      rcases hq with hq | hq | hq
      · omega
      · omega
      · have := HWV _ hq; omega)).trans HK2.out
    have s4 : w.heap.size + 1 < w4.heap.size := (Array.getElem?_eq_some_iff.1 HK4.out).1
    have hl4 : ((wVal ws) ++ [(b, X)]).length ≤ 401 := by have := hwl.out; simp; omega
    clear hk4 hcd rng HWV
    go_wp2_with fail
    refine (cdisk_any _ _ _ _ _ _ _ _ _ _ _ _ hcd4 (by omega) (by omega)).mono ?_
    rintro e w5 ⟨T, vs, gd, dcap, pa, pc, rfl, hD5, hw5, hcap5, hb5⟩
    obtain ⟨p1, p2, p3, p4⟩ := two_cells ((hb5.block _ s4).trans HK4.out)
    have HB5 : Hid (Below w.heap.size w w5) := HB4.out.trans (hb5.mono HB4.out.size)
    have hF := fun u1 u2 => hD5.stored (w := w) s4 (by omega) HB5.out u1 u2
    have HF := Hid.out hF
    have HW5 : Hid (wVal vs = wVal ws ++ [(b, X)]) := hw5
    clear hF hD5 hb5 hcd4 hw5
    go_wp2
    refine bodyPost_ret (v := .agg #[.slice (some ⟨gd, 0, none⟩) (nb * 64) dcap, .slice pa (wVal ws ++ [(b, X)]).length pc]) (by simp [results, Try.results11, go_sem, p1, p2]) rfl ?_
    simp only [dwX, dwW, HD.out, if_true]
    obtain ⟨h1, h2⟩ := HF _ _
    exact ⟨T, vs, _, _, _, _, _, _, rfl, h1, HW5.out, hcap5, h2⟩
  · have u3 : decide (0 ≤ b ∧ b < (nb : Int)) = false := by simpa using hbb
    have HD : Hid (dwB (nb * 64) (wVal ws) b 64 = false) := by show _ = false; rw [HDD.out]; exact u3
    clear hbb
    go_wp2_with fail
    refine (hasBlock_any _ _ _ _ _ _ _ _ _ _ b w2 hcd).mono ?_
    rintro e w3 ⟨rfl, hw⟩
    have hw' := hw.symm
    subst hw'
    rw [u3]
    have hB := HB2.out
    obtain ⟨p1, p2, p3, p4⟩ := two_cells HK2.out
    have HBF : Hid (∀ u1 u2, Below w.heap.size w ((w2.setCell ⟨w.heap.size + 1, 0, none⟩ u1).setCell ⟨w.heap.size + 1, 1, none⟩ u2)) := fun u1 u2 => (hB.setCell (by show w.heap.size ≤ w.heap.size + 1; omega) _).setCell (by show w.heap.size ≤ w.heap.size + 1; omega) _
    clear hcd
    go_wp2
    refine bodyPost_ret (v := .agg #[.slice none 0 0, .slice none 0 0]) (by simp [results, Try.results11, go_sem, p1, p2]) rfl ?_
    simp only [dwX, dwW, HD.out]
    exact DAns.nil _ _ (HBF.out _ _)

end Go.Proofs.Ytkkammbfomiofaa
