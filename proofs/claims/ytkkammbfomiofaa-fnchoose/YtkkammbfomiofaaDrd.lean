/-
  DiskRead: the specification's and the program's.
-/
import Derived.Test.YtkkammbfomiofaaCop
import Derived.Test.YtkkammbfomiofaaCdr
namespace Go.Proofs.Ytkkammbfomiofaa
open Go.RowKit
set_option linter.unusedSimpArgs false
set_option linter.unusedVariables false

theorem owns_baseD {w : World} {B B' e sz n : Nat} {s : Value} {xs : List Value} (h : w.ownsRow B e sz s n xs) (hB : B' ≤ B) : w.ownsRow B' e sz s n xs := by
  refine ⟨h.1, h.2.imp id ?_⟩
  rintro ⟨g, cap, cur, e1, hg, rest⟩
  exact ⟨g, cap, cur, e1, by omega, rest⟩
theorem readL_succ (xs : List Int) (ws : List WV) (b : Int) (k : Nat) (h : k < ws.length) : readL xs ((wVal ws).take (k + 1)) b = if wBlk ws k = b then wBs ws k else readL xs ((wVal ws).take k) b := by
  rw [List.take_succ_eq_append_getElem (by rw [wVal_len]; exact h), wVal_at ws k h]
  simp [readL, List.foldl_append]
/-- What DiskRead answers. -/
def dreadL (n : Nat) (xs : List Int) (val : List (Int × List Int)) (b : Int) : List Int := if validB n val = true ∧ 0 ≤ b ∧ b < (n : Int) / 64 then readL xs val b else []
theorem readL_len {n : Nat} {xs : List Int} {val : List (Int × List Int)} {b : Int} (hv : ValidV n val) (hx : xs.length = n) (h0 : 0 ≤ b) (h1 : b < (n : Int) / 64) : (readL xs val b).length = 64 := by
  have hA : ((xs.drop (64 * b.toNat)).take 64).length = 64 := by
    have := hv.1
    simp only [List.length_take, List.length_drop]
    omega
  unfold readL
  generalize (xs.drop (64 * b.toNat)).take 64 = acc at hA
  have hall : ∀ x ∈ val, x.2.length = 64 := fun x hx => (hv.2.2.2.2 x hx).2.2
  clear hv
  induction val generalizing acc with
  | nil => exact hA
  | cons x r ih =>
    rw [List.foldl_cons]
    refine ih _ ?_ (fun y hy => hall y (by simp [hy]))
    split
    · exact hall x (by simp)
    · exact hA

set_option maxRecDepth 100000 in
set_option maxHeartbeats 2000000 in
theorem diskRead_spec (a p : Option Addr) (n ca m cp : Nat) (xs : List Int) (ws : List WV) (b : Int) (w : World) (ha : IRow .u8 w a n xs) (hp : PRead w p m ws) (hca : n ≤ ca) (hn : n ≤ 2097152) (hm : m ≤ 2097152) :
    Calls Try.prog 17 #[.agg #[.slice a n ca, .slice p m cp], .int .i64 b] w fun e w' => ∃ s, e = .returned s ∧ w'.ownsRow w.heap.size 5 1 s (dreadL n xs (wVal ws) b).length (u8s (dreadL n xs (wVal ws) b)) ∧ Below w.heap.size w w' := by
  cases hvb : validB n (wVal ws)
  · have HD : Hid (dreadL n xs (wVal ws) b = []) := if_neg (by rw [hvb]; simp)
    go_enter Try.func17, Try.ntmps17
    go_wp2_with fail
    refine (validDisk_spec _ _ _ _ _ _ ws _ (hp.below ((Below.refl _ _).alloc (Nat.le_refl _) _)) hn hm).mono ?_
    rintro e w1 ⟨rfl, hb1⟩
    rw [hvb]
    have hB : Below w.heap.size w w1 := ((Below.refl _ _).alloc (Nat.le_refl _) _).trans (hb1.mono (by simp))
    clear ha hp hb1
    go_wp2
    go_ret
    exact ⟨_, rfl, by rw [HD.out]; exact owns_baseD (empty_owned w1) hB.size, hB.alloc hB.size _⟩
  have hv : ValidV n (wVal ws) := (validB_iff _ _).1 hvb
  obtain ⟨hv1, hv2, hv3, hv4, hv5⟩ := hv
  by_cases h0 : 0 ≤ b
  case neg =>
    have HD : Hid (dreadL n xs (wVal ws) b = []) := if_neg (by omega)
    have u0 : b < 0 := by omega
    go_enter Try.func17, Try.ntmps17
    go_wp2_with fail
    refine (validDisk_spec _ _ _ _ _ _ ws _ (hp.below ((Below.refl _ _).alloc (Nat.le_refl _) _)) hn hm).mono ?_
    rintro e w1 ⟨rfl, hb1⟩
    rw [hvb]
    have hB : Below w.heap.size w w1 := ((Below.refl _ _).alloc (Nat.le_refl _) _).trans (hb1.mono (by simp))
    clear ha hp hb1 hv5
    go_wp2
    go_ret
    exact ⟨_, rfl, by rw [HD.out]; exact owns_baseD (empty_owned w1) hB.size, hB.alloc hB.size _⟩
  by_cases h1 : b < (n : Int) / 64
  case neg =>
    have HD : Hid (dreadL n xs (wVal ws) b = []) := if_neg (by omega)
    have u1 : (n : Int) / 64 ≤ b := by omega
    go_enter Try.func17, Try.ntmps17
    go_wp2_with fail
    refine (validDisk_spec _ _ _ _ _ _ ws _ (hp.below ((Below.refl _ _).alloc (Nat.le_refl _) _)) hn hm).mono ?_
    rintro e w1 ⟨rfl, hb1⟩
    rw [hvb]
    have hB : Below w.heap.size w w1 := ((Below.refl _ _).alloc (Nat.le_refl _) _).trans (hb1.mono (by simp))
    have k1 := (hb1.block w.heap.size (by simp)).trans (heap_alloc_new w _)
    obtain ⟨p1, p2, _, _⟩ := two_cells k1
    clear ha hp hb1 hv5
    go_wp2_with fail
    refine (l1Blocks_any _ _ _ _ _ _ _ hn).mono ?_
    rintro e w2 ⟨rfl, hb2⟩
    have hB2 : Below w.heap.size w w2 := hB.trans (hb2.mono hB.size)
    clear hb2 p1 p2 k1
    go_wp2
    go_ret
    exact ⟨_, rfl, by rw [HD.out]; exact owns_baseD (empty_owned w2) hB2.size, hB2.alloc hB2.size _⟩
  have HD : Hid (dreadL n xs (wVal ws) b = readL xs (wVal ws) b) := if_pos ⟨hvb, h0, h1⟩
  have HL : Hid ((readL xs (wVal ws) b).length = 64) := readL_len ⟨hv1, hv2, hv3, hv4, hv5⟩ ha.1 h0 h1
  have HP : Hid (PRead w p m ws) := hp
  have HA : Hid (IRow .u8 w a n xs) := ha
  have hm4 : m ≤ 400 := by rw [wVal_len, hp.1] at hv4; exact hv4
  obtain ⟨bn, rfl⟩ : ∃ bn : Nat, b = (bn : Int) := ⟨b.toNat, by omega⟩
  have hbn : bn * 64 + 64 ≤ n := by omega
  obtain ⟨g, off, rfl⟩ : ∃ g off, a = some ⟨g, off, none⟩ := by
    rcases ha.2 with h | ⟨g, off, e, _⟩
    · omega
    · exact ⟨g, off, e⟩
  have HC : Hid (chk64 xs bn = (xs.drop (64 * bn)).take 64) := rfl
  have hsub : IRow .u8 w (some ⟨g, off + bn * 64, none⟩) 64 (chk64 xs bn) := by
    refine ⟨by simp only [chk64, List.length_take, List.length_drop, ha.1]; omega, .inr ⟨g, off + bn * 64, rfl, fun i hi => ?_⟩⟩
    rcases ha.2 with h | ⟨g', off', e, hc⟩
    · omega
    · injection e with e; injection e with e1 e2; subst e1; subst e2
      rw [show off + bn * 64 + i = off + (bn * 64 + i) by omega, hc _ (by omega)]
      simp [chk64, List.getElem?_take, hi, List.getElem?_drop, Nat.mul_comm]
  clear ha hp hv5
  go_enter Try.func17, Try.ntmps17
  go_wp2_with fail
  refine (validDisk_spec _ _ _ _ _ _ ws _ (HP.out.below ((Below.refl _ _).alloc (Nat.le_refl _) _)) hn hm).mono ?_
  rintro e w1 ⟨rfl, hb1⟩
  rw [hvb]
  have hB : Below w.heap.size w w1 := ((Below.refl _ _).alloc (Nat.le_refl _) _).trans (hb1.mono (by simp))
  have k1 := (hb1.block w.heap.size (by simp)).trans (heap_alloc_new w _)
  obtain ⟨p1, p2, _, _⟩ := two_cells k1
  clear hb1
  go_wp2_with fail
  refine (l1Blocks_any _ _ _ _ _ _ _ hn).mono ?_
  rintro e w2 ⟨rfl, hb2⟩
  have hB2 : Below w.heap.size w w2 := hB.trans (hb2.mono hB.size)
  have k2 := (hb2.block w.heap.size (Array.getElem?_eq_some_iff.1 k1).1).trans k1
  obtain ⟨q1, q2, _, _⟩ := two_cells k2
  clear hb2 p1 p2 k1
  have u3 : (bn : Int) * 64 ≤ (n : Int) := by omega
  have u4 : ((bn : Int) + 1) * 64 ≤ (ca : Int) := by omega
  go_wp2_with fail
  rw [show (bn + 1) * 64 - bn * 64 = 64 by omega]
  refine (l1Copy_any _ _ _ (chk64 xs bn) _ (hsub.below hB2) (by omega)).mono ?_
  rintro e w3 ⟨s3, rfl, hown3, hb3⟩
  obtain ⟨a3, c3, rfl⟩ := owns_shape hown3
  have hB3 : Below w.heap.size w w3 := hB2.trans (hb3.mono hB2.size)
  have k3 := (hb3.block w.heap.size (Array.getElem?_eq_some_iff.1 k2).1).trans k2
  have O3 : Hid (w3.ownsRow w.heap.size 5 1 (.slice a3 64 c3) 64 (u8s (readL xs ((wVal ws).take 0) (bn : Int)))) := by
    show World.ownsRow _ _ _ _ _ _ _
    have e : readL xs ((wVal ws).take 0) (bn : Int) = chk64 xs bn := by simp [readL, chk64]
    rw [e]
    exact owns_baseD hown3 hB2.size
  have K3 : Hid (w3.heap[w.heap.size]? = some (.cells #[.slice (some ⟨g, off, none⟩) n ca, .slice p m cp] 33 (0, 0))) := k3
  have HB3 : Hid (Below w.heap.size w w3) := hB3
  clear hown3 hb3 hB hB2 k2 q1 q2 hsub u3 u4 k3 hB3 hv4
  go_wp2
  go_loopw [5, 6] (fun s i wr => ∃ (k : Nat) (ad : Option Addr) (c : Nat), k ≤ m ∧ s = .slice ad 64 c ∧ i = .int .i64 k ∧ Hid (wr.ownsRow w.heap.size 5 1 (.slice ad 64 c) 64 (u8s (readL xs ((wVal ws).take k) (bn : Int)))) ∧ Hid (wr.heap[w.heap.size]? = some (.cells #[.slice (some ⟨g, off, none⟩) n ca, .slice p m cp] 33 (0, 0))) ∧ Hid (Below w.heap.size w wr)) (fun _ i _ => m - (intOf i).toNat)
  case atStart => exact ⟨0, _, _, Nat.zero_le _, rfl, rfl, O3, K3, HB3⟩
  case round =>
    obtain ⟨k, ad, c, hk, rfl, rfl, ho, hkk, hbl⟩ := hrel
    clear O3 K3 HB3
    obtain ⟨q1, q2, _, _⟩ := two_cells hkk.out
    have sw := (Array.getElem?_eq_some_iff.1 hkk.out).1
    by_cases hlt : k < m
    · have hkl : k < ws.length := by rw [HP.out.1]; exact hlt
      obtain ⟨_, hc, hd⟩ := HP.out.below hbl.out
      rcases hc with h0' | ⟨gp, offp, he, hc⟩
      · omega
      subst he
      obtain ⟨c1, c2⟩ := hc k hlt
      obtain ⟨hr, hr64⟩ := hd k hlt
      clear hc hd
      have HS : Hid (readL xs ((wVal ws).take (k + 1)) (bn : Int) = if wBlk ws k = (bn : Int) then wBs ws k else readL xs ((wVal ws).take k) (bn : Int)) := readL_succ xs ws _ k hkl
      by_cases hq : wBlk ws k = (bn : Int)
      · have hok := ((validB_iff _ _).1 hvb).2.2.2.2 _ (List.getElem_mem (by rw [wVal_len]; exact hkl))
        rw [wVal_at ws k hkl] at hok
        have h64 : wN ws k = 64 := by rw [← hr.1]; exact hok.2.2
        have u1 : (wBlk ws k == (bn : Int)) = true := by simp [hq]
        have HQ : Hid (wBlk ws k = (bn : Int)) := hq
        rw [h64] at c2 hr
        clear hok hq h64
        go_wp2_with fail
        refine (l1Copy_any _ _ _ (wBs ws k) _ hr (by omega)).mono ?_
        rintro e w4 ⟨s4, rfl, hown4, hb4⟩
        obtain ⟨a4, c4, rfl⟩ := owns_shape hown4
        have ho4 : Hid (w4.ownsRow w.heap.size 5 1 (.slice a4 64 c4) 64 (u8s (readL xs ((wVal ws).take (k + 1)) (bn : Int)))) := by
          show World.ownsRow _ _ _ _ _ _ _
          rw [HS.out, if_pos HQ.out]
          exact owns_baseD hown4 hbl.out.size
        have hk4 : Hid (w4.heap[w.heap.size]? = some (.cells #[.slice (some ⟨g, off, none⟩) n ca, .slice (some ⟨gp, offp, none⟩) m cp] 33 (0, 0))) := (hb4.block w.heap.size sw).trans hkk.out
        have hbl4 : Hid (Below w.heap.size w w4) := hbl.out.trans (hb4.mono hbl.out.size)
        clear hown4 hb4 hr c1 c2 q1 q2 u1
        go_wp2
        go_roundw
        case rel => exact ⟨k + 1, _, _, by omega, rfl, by go_num, ho4, hk4, hbl4⟩
        case measure => simp [intOf]; omega
      · have u1 : (wBlk ws k == (bn : Int)) = false := by simpa using hq
        have ho4 : Hid (wr.ownsRow w.heap.size 5 1 (.slice ad 64 c) 64 (u8s (readL xs ((wVal ws).take (k + 1)) (bn : Int)))) := by
          show World.ownsRow _ _ _ _ _ _ _
          rw [HS.out, if_neg hq]
          exact ho.out
        clear hq hr
        go_wp2
        go_roundw
        case rel => exact ⟨k + 1, _, _, by omega, rfl, by go_num, ho4, hkk, hbl⟩
        case measure => simp [intOf]; omega
    · have hfin : (wVal ws).take k = wVal ws := List.take_of_length_le (by rw [wVal_len, HP.out.1]; omega)
      have hfo : Hid (wr.ownsRow w.heap.size 5 1 (.slice ad 64 c) (readL xs (wVal ws) (bn : Int)).length (u8s (readL xs (wVal ws) (bn : Int)))) := by
        show World.ownsRow _ _ _ _ _ _ _
        rw [HL.out]
        have := ho.out
        rwa [hfin] at this
      clear hfin ho
      go_wp2
      go_ret
      exact ⟨_, rfl, by rw [HD.out]; exact hfo.out, hbl.out⟩

set_option maxRecDepth 100000 in
set_option maxHeartbeats 2000000 in
theorem diskRead_impl (a p : Option Addr) (n ca m cp : Nat) (xs : List Int) (ws : List WV) (b : Int) (w : World) (ha : IRow .u8 w a n xs) (hp : PRead w p m ws) (hca : n ≤ ca) (hn : n ≤ 2097152) (hm : m ≤ 2097152) (hb : (Lit.int .i64 b).wf = true) :
    Calls Try.prog 13 #[.agg #[.slice a n ca, .slice p m cp], .int .i64 b] w fun e w' => ∃ g c, e = .returned (.slice (some ⟨g, 0, none⟩) (dreadL n xs (wVal ws) b).length c) ∧ w.heap.size ≤ g ∧ g < w'.heap.size ∧ Row .u8 (fun x => x = g) w' (some ⟨g, 0, none⟩) (dreadL n xs (wVal ws) b).length (dreadL n xs (wVal ws) b) ∧ Below w.heap.size w w' := by
  cases hvb : validB n (wVal ws)
  · have HD : Hid (dreadL n xs (wVal ws) b = []) := if_neg (by rw [hvb]; simp)
    go_enter Try.func13, Try.ntmps13
    go_wp2_with fail
    refine (validDisk_impl _ _ _ _ _ _ ws _ (hp.below ((Below.refl _ _).alloc (Nat.le_refl _) _)) hn hm).mono ?_
    rintro e w1 ⟨rfl, hb1⟩
    rw [hvb]
    have hB : Below w.heap.size w w1 := ((Below.refl _ _).alloc (Nat.le_refl _) _).trans (hb1.mono (by simp))
    clear ha hp hb1
    go_wp2
    go_ret
    rw [HD.out]
    exact ⟨_, _, rfl, hB.size, by simp, ⟨rfl, .inl rfl⟩, hB.alloc hB.size _⟩
  have hv : ValidV n (wVal ws) := (validB_iff _ _).1 hvb
  obtain ⟨nb, rfl⟩ : ∃ nb, n = nb * 64 := ⟨n / 64, by have := hv.1; omega⟩
  have hnb : 1 ≤ nb ∧ nb ≤ 1200 := by have h1 := hv.2.1; have h2 := hv.2.2.1; rw [Nat.mul_div_cancel _ (by decide)] at h1 h2; exact ⟨h1, h2⟩
  have hnd : ((nb * 64 : Nat) : Int) / 64 = (nb : Int) := by omega
  obtain ⟨g, off, rfl⟩ : ∃ g off, a = some ⟨g, off, none⟩ := by
    rcases ha.2 with h | ⟨g, off, e, _⟩
    · omega
    · exact ⟨g, off, e⟩
  have hlen : (wVal ws).length ≤ 400 := hv.2.2.2.1
  have HV : Hid (ValidV (nb * 64) (wVal ws)) := hv
  have HA : Hid (IRow .u8 w (some ⟨g, off, none⟩) (nb * 64) xs) := ha
  have HP : Hid (PRead w p m ws) := hp
  have HDD : Hid (dreadL (nb * 64) xs (wVal ws) b = if 0 ≤ b ∧ b < (nb : Int) then readL xs (wVal ws) b else []) := by
    show _ = _
    unfold dreadL
    rw [hvb, hnd]
    simp
  clear ha hp hv
  go_enter Try.func13, Try.ntmps13
  go_wp2_with fail
  refine (validDisk_impl _ _ _ _ _ _ ws _ (HP.out.below ((Below.refl _ _).alloc (Nat.le_refl _) _)) hn hm).mono ?_
  rintro e w1 ⟨rfl, hb1⟩
  rw [hvb]
  have hB : Below w.heap.size w w1 := ((Below.refl _ _).alloc (Nat.le_refl _) _).trans (hb1.mono (by simp))
  have k1 := (hb1.block w.heap.size (by simp)).trans (heap_alloc_new w _)
  obtain ⟨p1, p2, _, _⟩ := two_cells k1
  clear hb1
  go_wp2_with fail
  refine (openDisk_any g off nb ca p m cp xs ws _ (HA.out.below hB) hca (HP.out.below hB) HV.out).mono ?_
  rintro e w2 ⟨C, dv, wa, wc, M, D, rfl, hcd, hb2⟩
  have hB2 : Below w.heap.size w w2 := hB.trans (hb2.mono hB.size)
  obtain ⟨da, dc, rfl⟩ := owns_shape hcd.dur
  clear hb2 p1 p2 k1
  by_cases hbb : 0 ≤ b ∧ b < (nb : Int)
  · have u1 : decide (0 ≤ b ∧ b < (nb : Int)) = true := by simp [hbb]
    have HD : Hid (dreadL (nb * 64) xs (wVal ws) b = readL xs (wVal ws) b) := by show _ = _; rw [HDD.out, if_pos hbb]
    have HL : Hid ((readL xs (wVal ws) b).length = 64) := readL_len HV.out HA.out.1 hbb.1 (by rw [hnd]; exact hbb.2)
    go_wp2_with fail
    refine (hasBlock_any _ _ _ _ _ _ _ _ _ _ b w2 hcd).mono ?_
    rintro e w3 ⟨rfl, hw⟩
    have hw' := hw.symm
    subst hw'
    rw [u1]
    go_wp2_with fail
    refine (cread_any _ _ _ _ _ _ _ _ _ _ _ b _ hcd hb hbb.1 hbb.2 (by omega) (by omega)).mono ?_
    rintro e w4 ⟨rfl, hb4⟩
    have hB4 : Below w.heap.size w w4 := hB2.trans (hb4.mono hB2.size)
    obtain ⟨W0, hW0⟩ : ∃ W0, w4.alloc (Obj.cells z64.toArray 60) = W0 := ⟨_, rfl⟩
    have hb0 : Below w4.heap.size w4 W0 := by rw [← hW0]; exact (Below.refl _ w4).alloc (Nat.le_refl _) _
    have g3 : W0.heap[w4.heap.size]? = some (.cells z64.toArray 60 (0, 0)) := by rw [← hW0]; exact heap_alloc_new w4 _
    have hXs : (u8s (readL xs (wVal ws) b)).toArray.size = 64 := by rw [List.size_toArray, u8s_len, HL.out]
    have h1X : (u8s (readL xs (wVal ws) b)).toArray.all (·.oneCell') = true := all_oneCell_toArray (many_u8 _)
    rw [z64_lit] at hW0
    clear hcd hb4
    go_wp2_with (refine wpList_store_row rfl 60 _ _ rfl w4.heap.size (u8s (readL xs (wVal ws) b)).toArray rfl rfl 60 _ g3 (by rw [hXs]; exact infoBB) (by rw [hXs]; rfl) h1X ?_)
    have hgr := setRow_heap W0 w4.heap.size _ (u8s (readL xs (wVal ws) b)).toArray 60 _ g3
    have hBr : Below w.heap.size w (W0.setRow w4.heap.size (u8s (readL xs (wVal ws) b)).toArray) := below_setRow (hB4.trans (hb0.mono hB4.size)) hB4.size _
    generalize W0.setRow w4.heap.size (u8s (readL xs (wVal ws) b)).toArray = W5 at hgr hBr
    go_ret
    rw [HD.out, HL.out]
    refine ⟨_, _, rfl, hB4.size, (Array.getElem?_eq_some_iff.1 hgr).1, ⟨HL.out, .inr ⟨_, 0, rfl, rfl, fun i hi => ?_⟩⟩, hBr⟩
    rw [Nat.zero_add]
    refine ⟨?_, by simp [World.frozen?, hgr]⟩
    rw [cell_of_row W5 w4.heap.size i _ _ _ hgr]
    have hil : i < (readL xs (wVal ws) b).length := by rw [HL.out]; exact hi
    simp [u8s, List.getElem?_eq_getElem hil]
  · have u1 : decide (0 ≤ b ∧ b < (nb : Int)) = false := by simpa using hbb
    have HD : Hid (dreadL (nb * 64) xs (wVal ws) b = []) := by show _ = _; rw [HDD.out, if_neg hbb]
    clear hbb
    go_wp2_with fail
    refine (hasBlock_any _ _ _ _ _ _ _ _ _ _ b w2 hcd).mono ?_
    rintro e w3 ⟨rfl, hw⟩
    have hw' := hw.symm
    subst hw'
    rw [u1]
    clear hcd
    go_wp2
    go_ret
    rw [HD.out]
    exact ⟨_, _, rfl, hB2.size, by simp, ⟨rfl, .inl rfl⟩, hB2.alloc hB2.size _⟩
end Go.Proofs.Ytkkammbfomiofaa
