/-
  DiskCrash: the specification's and the program's.
-/
import Derived.Test.YtkkammbfomiofaaCrh
namespace Go.Proofs.Ytkkammbfomiofaa
open Go.RowKit
set_option linter.unusedSimpArgs false
set_option linter.unusedVariables false

/-- The bytes that DiskCrash answers. -/
def dcX (n : Nat) (xs : List Int) (val : List (Int × List Int)) (l : Nat) (ch : List Int) : List Int := if validB n val = true ∧ l ≤ 400 then stl xs (ckL val ch) else []

set_option maxRecDepth 100000 in
set_option maxHeartbeats 1500000 in
theorem diskCrash_impl (a p : Option Addr) (n ca m cp : Nat) (xs : List Int) (ws : List WV) (cd : Option Addr) (l lc : Nat) (ch : List Int) (w : World) (ha : IRow .u8 w a n xs) (hp : PRead w p m ws) (hch : IRow .i64 w cd l ch) (hll : l ≤ 2097152) (hca : n ≤ ca) (hn : n ≤ 2097152) (hm : m ≤ 2097152) :
    Calls Try.prog 14 #[.agg #[.slice a n ca, .slice p m cp], .slice cd l lc] w fun e w' => DAns w w' e (dcX n xs (wVal ws) l ch) [] := by
  have hb2 : ∀ (o o' : Obj), Below w.heap.size w ((w.alloc o).alloc o') := fun o o' => ((Below.refl _ w).alloc (Nat.le_refl _) _).alloc (by simp) _
  have hwl : Hid ((wVal ws).length = m) := by show _ = _; rw [wVal_len, hp.1]
  cases hvb : validB n (wVal ws)
  · have HD : Hid (dcX n xs (wVal ws) l ch = []) := if_neg (fun h => by rw [hvb] at h; simp at h)
    go_enter Try.func14, Try.ntmps14
    go_wp2_with fail
    refine (validDisk_impl _ _ _ _ _ _ ws _ (hp.below (hb2 _ _)) hn hm).mono ?_
    rintro e w1 ⟨rfl, hb1⟩
    rw [hvb]
    have hB : Below w.heap.size w w1 := (hb2 _ _).trans (hb1.mono (by simp; omega))
    have k0 := (hb1.block w.heap.size (by simp; omega)).trans (heap_alloc2_old w _ _)
    have k1 := (hb1.block (w.heap.size + 1) (by simp)).trans (heap_alloc2_new w _ _)
    obtain ⟨c1, c2, _, _⟩ := two_cells k0
    obtain ⟨p1, p2, p3, p4⟩ := two_cells k1
    have HBF : Hid (∀ u1 u2, Below w.heap.size w ((w1.setCell ⟨w.heap.size + 1, 0, none⟩ u1).setCell ⟨w.heap.size + 1, 1, none⟩ u2)) := fun u1 u2 => (hB.setCell (by show w.heap.size ≤ w.heap.size + 1; omega) _).setCell (by show w.heap.size ≤ w.heap.size + 1; omega) _
    clear ha hp hb1 k0 k1 hb2 hch
    go_wp2
    refine bodyPost_ret (v := .agg #[.slice none 0 0, .slice none 0 0]) (by simp [results, Try.results14, go_sem, p1, p2]) rfl ?_
    rw [HD.out]
    exact DAns.nil _ _ (HBF.out _ _)
  by_cases hl4 : l ≤ 400
  rotate_left
  · have HD : Hid (dcX n xs (wVal ws) l ch = []) := if_neg (fun h => hl4 h.2)
    go_enter Try.func14, Try.ntmps14
    go_wp2_with fail
    refine (validDisk_impl _ _ _ _ _ _ ws _ (hp.below (hb2 _ _)) hn hm).mono ?_
    rintro e w1 ⟨rfl, hb1⟩
    rw [hvb]
    have hB : Below w.heap.size w w1 := (hb2 _ _).trans (hb1.mono (by simp; omega))
    have k0 := (hb1.block w.heap.size (by simp; omega)).trans (heap_alloc2_old w _ _)
    have k1 := (hb1.block (w.heap.size + 1) (by simp)).trans (heap_alloc2_new w _ _)
    obtain ⟨c1, c2, _, _⟩ := two_cells k0
    obtain ⟨p1, p2, p3, p4⟩ := two_cells k1
    have HBF : Hid (∀ u1 u2, Below w.heap.size w ((w1.setCell ⟨w.heap.size + 1, 0, none⟩ u1).setCell ⟨w.heap.size + 1, 1, none⟩ u2)) := fun u1 u2 => (hB.setCell (by show w.heap.size ≤ w.heap.size + 1; omega) _).setCell (by show w.heap.size ≤ w.heap.size + 1; omega) _
    have hl5 : 400 < l := by omega
    clear ha hp hb1 k0 k1 hb2 hch hl4
    go_wp2
    refine bodyPost_ret (v := .agg #[.slice none 0 0, .slice none 0 0]) (by simp [results, Try.results14, go_sem, p1, p2]) rfl ?_
    rw [HD.out]
    exact DAns.nil _ _ (HBF.out _ _)
  have hv : ValidV n (wVal ws) := (validB_iff _ _).1 hvb
  obtain ⟨nb, rfl⟩ : ∃ nb, n = nb * 64 := ⟨n / 64, by have := hv.1; omega⟩
  have hnb : 1 ≤ nb ∧ nb ≤ 1200 := by have h1 := hv.2.1; have h2 := hv.2.2.1; rw [Nat.mul_div_cancel _ (by decide)] at h1 h2; exact ⟨h1, h2⟩
  have hm4 : m ≤ 400 := by have := hv.2.2.2.1; have := hwl.out; omega
  obtain ⟨g, off, rfl⟩ : ∃ g off, a = some ⟨g, off, none⟩ := by
    rcases ha.2 with h | ⟨g, off, e, _⟩
    · omega
    · exact ⟨g, off, e⟩
  have HD : Hid (dcX (nb * 64) xs (wVal ws) l ch = stl xs (ckL (wVal ws) ch)) := if_pos ⟨hvb, hl4⟩
  have HV : Hid (ValidV (nb * 64) (wVal ws)) := hv
  have HA : Hid (IRow .u8 w (some ⟨g, off, none⟩) (nb * 64) xs) := ha
  have HP : Hid (PRead w p m ws) := hp
  have HCH : Hid (IRow .i64 w cd l ch) := hch
  go_enter Try.func14, Try.ntmps14
  go_wp2_with fail
  refine (validDisk_impl _ _ _ _ _ _ ws _ (hp.below (hb2 _ _)) hn hm).mono ?_
  rintro e w1 ⟨rfl, hb1⟩
  rw [hvb]
  have hB : Below w.heap.size w w1 := (hb2 _ _).trans (hb1.mono (by simp; omega))
  have k0 := (hb1.block w.heap.size (by simp; omega)).trans (heap_alloc2_old w _ _)
  have k1 := (hb1.block (w.heap.size + 1) (by simp)).trans (heap_alloc2_new w _ _)
  obtain ⟨c1, c2, _, _⟩ := two_cells k0
  obtain ⟨p1, p2, p3, p4⟩ := two_cells k1
  have HB1 : Hid (Below w.heap.size w w1) := hB
  have HK1 : Hid (w1.heap[w.heap.size + 1]? = some (.cells #[.slice none 0 0, .slice none 0 0] 33 (0, 0))) := k1
  have s1 : w.heap.size + 1 < w1.heap.size := (Array.getElem?_eq_some_iff.1 k1).1
  clear ha hp hv hch hb1 k0 k1 hb2 hB p1 p2 p3 p4
  go_wp2_with fail
  refine (openDisk_any g off nb ca p m cp xs ws _ (HA.out.below HB1.out) hca (HP.out.below HB1.out) HV.out).mono ?_
  rintro e w2 ⟨C, dv, wa, wc, M, D, rfl, hcd, hb2⟩
  obtain ⟨da, dc, rfl⟩ := owns_shape hcd.dur
  have HB2 : Hid (Below w.heap.size w w2) := HB1.out.trans (hb2.mono HB1.out.size)
  have HK2 : Hid (w2.heap[w.heap.size + 1]? = some (.cells #[.slice none 0 0, .slice none 0 0] 33 (0, 0))) := (hb2.block _ s1).trans HK1.out
  have z2 := hb2.size
  have hok : ∀ x ∈ wVal ws, 0 ≤ x.1 ∧ x.1 < (nb : Int) := fun x hx => by
    have := HV.out.2.2.2.2 x hx
    rw [Nat.mul_div_cancel _ (by decide)] at this
    exact ⟨this.1, this.2.1⟩
  have HOK := Hid.out hok
  have HCW : Hid (∀ W, Below w1.heap.size w2 W → IRow .i64 W cd l ch) := fun W hW => HCH.out.below (HB2.out.trans (hW.mono (by omega)))
  clear hb2 c1 c2 hok
  go_wp2_with fail
  refine (crash_any _ _ _ _ _ _ _ _ _ _ _ _ hcd (by have := hwl.out; omega) (by omega) HOK (by omega) _ _ _ ch HCW hll).mono ?_
  rintro e w4 ⟨⟨v, rfl⟩, hcd4, hb4⟩
  have HB4 : Hid (Below w.heap.size w w4) := HB2.out.trans (hb4.mono (by omega))
  have HK4 : Hid (w4.heap[w.heap.size + 1]? = some (.cells #[.slice none 0 0, .slice none 0 0] 33 (0, 0))) := (hb4.block _ (by omega)).trans HK2.out
  have s4 : w.heap.size + 1 < w4.heap.size := (Array.getElem?_eq_some_iff.1 HK4.out).1
  clear hb4 hcd HOK
  go_wp2_with fail
  refine (cdisk_any _ _ _ _ [] _ _ none 0 _ _ _ hcd4 (by simp) (by omega)).mono ?_
  rintro e w5 ⟨T, vs, gd, dcap, pa, pc, rfl, hD5, hw5, hcap5, hb5⟩
  obtain ⟨p1, p2, p3, p4⟩ := two_cells ((hb5.block _ s4).trans HK4.out)
  have HB5 : Hid (Below w.heap.size w w5) := HB4.out.trans (hb5.mono HB4.out.size)
  have hF := fun u1 u2 => hD5.stored (w := w) s4 (by omega) HB5.out u1 u2
  have HF := Hid.out hF
  have HW5 : Hid (wVal vs = []) := hw5
  clear hF hD5 hb5 hcd4 hw5
  go_wp2
  refine bodyPost_ret (v := .agg #[.slice (some ⟨gd, 0, none⟩) (nb * 64) dcap, .slice pa 0 pc]) (by simp [results, Try.results14, go_sem, p1, p2]) rfl ?_
  rw [HD.out]
  obtain ⟨h1, h2⟩ := HF _ _
  exact ⟨T, vs, _, _, _, _, _, _, rfl, h1, HW5.out, hcap5, h2⟩

theorem zip_ck (val : List (Int × List Int)) (ch : List Int) : val.zip ((List.range val.length).map (kp ch)) = ckL val ch := by
  refine List.ext_getElem? fun k => ?_
  by_cases hk : k < val.length
  · rw [ckL_at val ch (List.getElem?_eq_getElem hk), show (val.zip ((List.range val.length).map (kp ch)))[k]? = some (val[k], kp ch k) from List.getElem?_zip_eq_some.2 ⟨List.getElem?_eq_getElem hk, by simp [hk]⟩]
  · rw [List.getElem?_eq_none (by simp; omega), List.getElem?_eq_none (by rw [ckL_len]; omega)]

end Go.Proofs.Ytkkammbfomiofaa
