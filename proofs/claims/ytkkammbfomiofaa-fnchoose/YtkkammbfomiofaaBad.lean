/-
  DiskBarrier: the specification's and the program's.
-/
import Derived.Test.YtkkammbfomiofaaBas
namespace Go.Proofs.Ytkkammbfomiofaa
open Go.RowKit
set_option linter.unusedSimpArgs false
set_option linter.unusedVariables false

/-- The bytes that DiskBarrier answers. -/
def dbX (n : Nat) (xs : List Int) (val : List (Int × List Int)) : List Int := if validB n val then stlAll xs val else []

set_option maxRecDepth 100000 in
set_option maxHeartbeats 1500000 in
theorem diskBarrier_impl (a p : Option Addr) (n ca m cp : Nat) (xs : List Int) (ws : List WV) (w : World) (ha : IRow .u8 w a n xs) (hp : PRead w p m ws) (hca : n ≤ ca) (hn : n ≤ 2097152) (hm : m ≤ 2097152) :
    Calls Try.prog 15 #[.agg #[.slice a n ca, .slice p m cp]] w fun e w' => DAns w w' e (dbX n xs (wVal ws)) [] := by
  have hb2 : ∀ (o o' : Obj), Below w.heap.size w ((w.alloc o).alloc o') := fun o o' => ((Below.refl _ w).alloc (Nat.le_refl _) _).alloc (by simp) _
  have hwl : Hid ((wVal ws).length = m) := by show _ = _; rw [wVal_len, hp.1]
  cases hvb : validB n (wVal ws)
  · have HD : Hid (dbX n xs (wVal ws) = []) := if_neg (by rw [hvb]; simp)
    go_enter Try.func15, Try.ntmps15
    go_wp2_with fail
    refine (validDisk_impl _ _ _ _ _ _ ws _ (hp.below (hb2 _ _)) hn hm).mono ?_
    rintro e w1 ⟨rfl, hb1⟩
    rw [hvb]
    have hB : Below w.heap.size w w1 := (hb2 _ _).trans (hb1.mono (by simp; omega))
    have k0 := (hb1.block w.heap.size (by simp; omega)).trans (heap_alloc2_old w _ _)
    have k1 := (hb1.block (w.heap.size + 1) (by simp)).trans (heap_alloc2_new w _ _)
    obtain ⟨c1, c2, _, _⟩ := two_cells k0
    obtain ⟨p1, p2, p3, p4⟩ := two_cells k1
    have HBF : Hid (∀ u1 u2, Below w.heap.size w ((w1.setCell ⟨w.heap.size + 1, 0, none⟩ u1).setCell ⟨w.heap.size + 1, 1, none⟩ u2)) := fun u1 u2 => (hB.setCell (by show w.heap.size ≤ w.heap.size + 1; omega) _).setCell (by show w.heap.size ≤ w.heap.size + 1; omega) _
    clear ha hp hb1 k0 k1 hb2
    go_wp2
    refine bodyPost_ret (v := .agg #[.slice none 0 0, .slice none 0 0]) (by simp [results, Try.results15, go_sem, p1, p2]) rfl ?_
    rw [HD.out]
    exact DAns.nil _ _ (HBF.out _ _)
  have hv : ValidV n (wVal ws) := (validB_iff _ _).1 hvb
  obtain ⟨nb, rfl⟩ : ∃ nb, n = nb * 64 := ⟨n / 64, by have := hv.1; omega⟩
  have hnb : 1 ≤ nb ∧ nb ≤ 1200 := by have h1 := hv.2.1; have h2 := hv.2.2.1; rw [Nat.mul_div_cancel _ (by decide)] at h1 h2; exact ⟨h1, h2⟩
  have hm4 : m ≤ 400 := by have := hv.2.2.2.1; have := hwl.out; omega
  obtain ⟨g, off, rfl⟩ : ∃ g off, a = some ⟨g, off, none⟩ := by
    rcases ha.2 with h | ⟨g, off, e, _⟩
    · omega
    · exact ⟨g, off, e⟩
  have HD : Hid (dbX (nb * 64) xs (wVal ws) = stlAll xs (wVal ws)) := if_pos hvb
  have HV : Hid (ValidV (nb * 64) (wVal ws)) := hv
  have HA : Hid (IRow .u8 w (some ⟨g, off, none⟩) (nb * 64) xs) := ha
  have HP : Hid (PRead w p m ws) := hp
  go_enter Try.func15, Try.ntmps15
  go_wp2_with fail
  refine (validDisk_impl _ _ _ _ _ _ ws _ (hp.below (hb2 _ _)) hn hm).mono ?_
  rintro e w1 ⟨rfl, hb1⟩
  rw [hvb]
  have hB : Below w.heap.size w w1 := (hb2 _ _).trans (hb1.mono (by simp; omega))
  have k0 := (hb1.block w.heap.size (by simp; omega)).trans (heap_alloc2_old w _ _)
  have k1 := (hb1.block (w.heap.size + 1) (by simp)).trans (heap_alloc2_new w _ _)
  obtain ⟨c1, c2, _, _⟩ := two_cells k0
  obtain ⟨p1, p2, p3, p4⟩ := two_cells k1
  have HB1 : Hid (Below w.heap.size w w1) := hB
  have HK1 : Hid (w1.heap[w.heap.size + 1]? = some (.cells #[.slice none 0 0, .slice none 0 0] 33 (0, 0))) := k1
  have s1 : w.heap.size + 1 < w1.heap.size := (Array.getElem?_eq_some_iff.1 k1).1
  clear ha hp hv hb1 k0 k1 hb2 hB p1 p2 p3 p4
  go_wp2_with fail
  refine (openDisk_any g off nb ca p m cp xs ws _ (HA.out.below HB1.out) hca (HP.out.below HB1.out) HV.out).mono ?_
  rintro e w2 ⟨C, dv, wa, wc, M, D, rfl, hcd, hb2⟩
  obtain ⟨da, dc, rfl⟩ := owns_shape hcd.dur
  have HB2 : Hid (Below w.heap.size w w2) := HB1.out.trans (hb2.mono HB1.out.size)
  have HK2 : Hid (w2.heap[w.heap.size + 1]? = some (.cells #[.slice none 0 0, .slice none 0 0] 33 (0, 0))) := (hb2.block _ s1).trans HK1.out
  have z2 := hb2.size
  have hok : ∀ x ∈ wVal ws, 0 ≤ x.1 ∧ x.1 < (nb : Int) := fun x hx => by
    have := HV.out.2.2.2.2 x hx
    rw [Nat.mul_div_cancel _ (by decide)] at this
    exact ⟨this.1, this.2.1⟩
  have HOK := Hid.out hok
  clear hb2 c1 c2 hok
  go_wp2_with fail
  refine (barrier_any _ _ _ _ _ _ _ _ _ _ _ _ hcd (by have := hwl.out; omega) (by omega) HOK (by omega)).mono ?_
  rintro e w4 ⟨⟨v, rfl⟩, hcd4, hb4⟩
  have HB4 : Hid (Below w.heap.size w w4) := HB2.out.trans (hb4.mono (by omega))
  have HK4 : Hid (w4.heap[w.heap.size + 1]? = some (.cells #[.slice none 0 0, .slice none 0 0] 33 (0, 0))) := (hb4.block _ (by omega)).trans HK2.out
  have s4 : w.heap.size + 1 < w4.heap.size := (Array.getElem?_eq_some_iff.1 HK4.out).1
  clear hb4 hcd HOK
  go_wp2_with fail
  refine (cdisk_any _ _ _ _ [] _ _ none 0 _ _ _ hcd4 (by simp) (by omega)).mono ?_
  rintro e w5 ⟨T, vs, gd, dcap, pa, pc, rfl, hD5, hw5, hcap5, hb5⟩
  obtain ⟨p1, p2, p3, p4⟩ := two_cells ((hb5.block _ s4).trans HK4.out)
  have HB5 : Hid (Below w.heap.size w w5) := HB4.out.trans (hb5.mono HB4.out.size)
  have hF := fun u1 u2 => hD5.stored (w := w) s4 (by omega) HB5.out u1 u2
  have HF := Hid.out hF
  have HW5 : Hid (wVal vs = []) := hw5
  clear hF hD5 hb5 hcd4 hw5
  go_wp2
  refine bodyPost_ret (v := .agg #[.slice (some ⟨gd, 0, none⟩) (nb * 64) dcap, .slice pa 0 pc]) (by simp [results, Try.results15, go_sem, p1, p2]) rfl ?_
  rw [HD.out]
  obtain ⟨h1, h2⟩ := HF _ _
  exact ⟨T, vs, _, _, _, _, _, _, rfl, h1, HW5.out, hcap5, h2⟩

theorem zip_rep : ∀ (l : List (Int × List Int)), l.zip (List.replicate l.length 64) = l.map fun x => (x, 64)
  | [] => rfl
  | x :: l => by simp [List.replicate_succ, zip_rep l]
theorem owns_i64B {w : World} {B n : Nat} {v : Value} {xs : List Int} (h : w.ownsRow B 2 1 v n (xs.map (Value.int .i64))) : ∃ a c, v = .slice a n c ∧ IRow .i64 w a n xs := by
  have hl : xs.length = n := by have := h.1; simpa using this
  rcases h.2 with ⟨rfl, h0⟩ | ⟨g, cap, cur, rfl, hB, hg, hc, hm, hsz, ht⟩
  · exact ⟨none, 0, by rw [h0], hl, .inl h0⟩
  · refine ⟨some ⟨g, 0, none⟩, cap, rfl, hl, ?_⟩
    by_cases h0 : n = 0
    · exact .inl h0
    · refine .inr ⟨g, 0, rfl, fun i hi => ?_⟩
      rw [Nat.zero_add, cell_of_row w g i _ _ _ hg]
      have : (cur.toList.take (n * 1))[i]? = (xs.map (Value.int .i64))[i]? := by rw [ht]
      rw [List.getElem?_take, if_pos (by omega)] at this
      rw [show cur[i]? = cur.toList[i]? by simp, this]
      simp [List.getElem?_eq_getElem (show i < xs.length by omega)]

set_option maxRecDepth 100000 in
set_option maxHeartbeats 1500000 in
theorem diskBarrier_spec (a p : Option Addr) (n ca m cp : Nat) (xs : List Int) (ws : List WV) (w : World) (ha : IRow .u8 w a n xs) (hp : PRead w p m ws) (hca : n ≤ ca) (hn : n ≤ 2097152) (hm : m ≤ 2097152) :
    Calls Try.prog 71 #[.agg #[.slice a n ca, .slice p m cp]] w fun e w' => SAns w w' e (dbX n xs (wVal ws)) [] := by
  obtain ⟨i0, hi, hz0, hz1, hz2⟩ := info_parts info2
  have hb2 : ∀ (o o' : Obj), Below w.heap.size w ((w.alloc o).alloc o') := fun o o' => ((Below.refl _ w).alloc (Nat.le_refl _) _).alloc (by simp) _
  have hwl : Hid ((wVal ws).length = m) := by show _ = _; rw [wVal_len, hp.1]
  cases hvb : validB n (wVal ws)
  · have HD : Hid (dbX n xs (wVal ws) = []) := if_neg (by rw [hvb]; simp)
    go_enter Try.func71, Try.ntmps71
    go_wp2_with fail
    refine (validDisk_spec _ _ _ _ _ _ ws _ (hp.below (hb2 _ _)) hn hm).mono ?_
    rintro e w1 ⟨rfl, hb1⟩
    rw [hvb]
    have hB : Below w.heap.size w w1 := (hb2 _ _).trans (hb1.mono (by simp; omega))
    have k0 := (hb1.block w.heap.size (by simp; omega)).trans (heap_alloc2_old w _ _)
    have k1 := (hb1.block (w.heap.size + 1) (by simp)).trans (heap_alloc2_new w _ _)
    obtain ⟨c1, c2, _, _⟩ := two_cells k0
    obtain ⟨p1, p2, p3, p4⟩ := two_cells k1
    have HBF : Hid (∀ u1 u2, Below w.heap.size w ((w1.setCell ⟨w.heap.size + 1, 0, none⟩ u1).setCell ⟨w.heap.size + 1, 1, none⟩ u2)) := fun u1 u2 => (hB.setCell (by show w.heap.size ≤ w.heap.size + 1; omega) _).setCell (by show w.heap.size ≤ w.heap.size + 1; omega) _
    clear ha hp hb1 k0 k1 hb2
    go_wp2
    refine bodyPost_ret (v := .agg #[.slice none 0 0, .slice none 0 0]) (by simp [results, Try.results71, go_sem, p1, p2]) rfl ?_
    rw [HD.out]
    exact SAns.nil _ _ (HBF.out _ _)
  have hv : ValidV n (wVal ws) := (validB_iff _ _).1 hvb
  obtain ⟨nb, rfl⟩ : ∃ nb, n = nb * 64 := ⟨n / 64, by have := hv.1; omega⟩
  have hnb : 1 ≤ nb ∧ nb ≤ 1200 := by have h1 := hv.2.1; have h2 := hv.2.2.1; rw [Nat.mul_div_cancel _ (by decide)] at h1 h2; exact ⟨h1, h2⟩
  have hm4 : m ≤ 400 := by have := hv.2.2.2.1; have := hwl.out; omega
  obtain ⟨g, off, rfl⟩ : ∃ g off, a = some ⟨g, off, none⟩ := by
    rcases ha.2 with h | ⟨g, off, e, _⟩
    · omega
    · exact ⟨g, off, e⟩
  have HD : Hid (dbX (nb * 64) xs (wVal ws) = stlAll xs (wVal ws)) := if_pos hvb
  have HV : Hid (ValidV (nb * 64) (wVal ws)) := hv
  have HA : Hid (IRow .u8 w (some ⟨g, off, none⟩) (nb * 64) xs) := ha
  have HP : Hid (PRead w p m ws) := hp
  have HOK : Hid (∀ k, k < m → 0 ≤ wBlk ws k ∧ (wBlk ws k).toNat * 64 + 64 ≤ nb * 64 ∧ wN ws k = 64 ∧ (List.replicate m 64)[k]?.getD 0 ≤ 64) := fun k hk => by
    have hil : k < ws.length := by rw [hp.1]; exact hk
    have hok := hv.2.2.2.2 _ (List.getElem_mem (by rw [wVal_len]; exact hil))
    rw [wVal_at ws k hil, Nat.mul_div_cancel _ (by decide)] at hok
    obtain ⟨o1, o2, o3⟩ := hok
    simp only at o1 o2 o3
    refine ⟨o1, by omega, ?_, by simp [hk]⟩
    rw [← (hp.2.2 k hk).1.1]
    exact o3
  go_enter Try.func71, Try.ntmps71
  go_wp2_with fail
  refine (validDisk_spec _ _ _ _ _ _ ws _ (hp.below (hb2 _ _)) hn hm).mono ?_
  rintro e w1 ⟨rfl, hb1⟩
  rw [hvb]
  have hB : Below w.heap.size w w1 := (hb2 _ _).trans (hb1.mono (by simp; omega))
  have k0 := (hb1.block w.heap.size (by simp; omega)).trans (heap_alloc2_old w _ _)
  have k1 := (hb1.block (w.heap.size + 1) (by simp)).trans (heap_alloc2_new w _ _)
  obtain ⟨c1, c2, _, _⟩ := two_cells k0
  obtain ⟨p1, p2, p3, p4⟩ := two_cells k1
  have HB1 : Hid (Below w.heap.size w w1) := hB
  have HK1 : Hid (w1.heap[w.heap.size + 1]? = some (.cells #[.slice none 0 0, .slice none 0 0] 33 (0, 0))) := k1
  have HX1 : Hid (w1.heap[w.heap.size]? = some (.cells #[.slice (some ⟨g, off, none⟩) (nb * 64) ca, .slice p m cp] 33 (0, 0))) := k0
  have s1 : w.heap.size + 1 < w1.heap.size := (Array.getElem?_eq_some_iff.1 k1).1
  have bA := fun o => (Below.refl _ w1).alloc (Nat.le_refl _) o
  have HE : Hid ((w1.alloc (Obj.cells #[] 2)).ownsRow w1.heap.size 2 1 (.slice (some ⟨w1.heap.size, 0, none⟩) 0 0) 0 ((List.replicate 0 (64 : Int)).map (Value.int .i64))) := World.ownsRow_made w1 #[] 0 (Nat.le_refl _) (Nat.zero_le _) rfl
  have HBE : Hid (Below w1.heap.size w1 (w1.alloc (Obj.cells #[] 2))) := bA _
  clear ha hp hv hb1 k0 k1 hb2 hB p1 p2 p3 p4 bA c1 c2
  go_wp2
  go_loopw [3, 4] (fun s i wr => ∃ (k : Nat) (ad : Option Addr) (c : Nat), k ≤ m ∧ s = .slice ad k c ∧ i = .int .i64 k ∧ Hid (wr.ownsRow w1.heap.size 2 1 (.slice ad k c) k ((List.replicate k (64 : Int)).map (Value.int .i64))) ∧ Hid (Below w1.heap.size w1 wr)) (fun _ i _ => m - (intOf i).toNat)
  case atStart => exact ⟨0, _, _, Nat.zero_le _, rfl, rfl, HE, HBE⟩
  case round =>
    obtain ⟨k, ad, c, hk, rfl, rfl, ho, hbl⟩ := hrel
    clear HE HBE
    have hx := (hbl.out.block _ (by omega)).trans HX1.out
    obtain ⟨c1, c2, _, _⟩ := two_cells hx
    have sN : w.heap.size < wr.heap.size := (Array.getElem?_eq_some_iff.1 hx).1
    by_cases hlt : k < m
    · have hsz := hbl.out.size
      have hrow := ho.out
      have HS : Hid ((List.replicate (k + 1) (64 : Int)).map (Value.int .i64) = (List.replicate k (64 : Int)).map (Value.int .i64) ++ [.int .i64 64]) := by show _ = _; rw [List.replicate_succ', List.map_append]; rfl
      clear hx
      go_wp2_with (at_builtin; refine wpList_append_own _ rfl _ _ 40 rfl w1.heap.size 2 i0 (.int .i64 0) 1 8 Try.underlying40 hi hz0 hz1 hz2 rfl (by decide) _ _ _ rfl (hrow.alloc _) ⟨wr.heap.size, 0, none⟩ 1 1 [.int .i64 64] rfl rfl one_cell (fun u hu => by simp at hu; subst hu; rfl) (by unfold maxLen; omega) (by omega) (by simp; omega) ?_)
      intro s' w3 hown3 hgrow _
      have hb3 : Hid (Below w1.heap.size w1 w3) := (hbl.out.alloc hsz _).grown hgrow (by simp; omega) (fun q hq => (hrow.lt q hq).1)
      have ho3 : w3.ownsRow w1.heap.size 2 1 s' (k + 1) ((List.replicate (k + 1) (64 : Int)).map (Value.int .i64)) := by rw [HS.out]; simpa using hown3
      obtain ⟨ad', c', rfl⟩ := owns_shape ho3
      have HO3 : Hid (w3.ownsRow w1.heap.size 2 1 (.slice ad' (k + 1) c') (k + 1) ((List.replicate (k + 1) (64 : Int)).map (Value.int .i64))) := ho3
      clear hown3 hgrow ho3 hrow c1 c2 HS
      go_wp2
      go_roundw
      case rel => exact ⟨k + 1, ad', c', by omega, rfl, by go_num, HO3, hb3⟩
      case measure => simp [intOf]; omega
    · obtain rfl : k = m := by omega
      obtain ⟨a9, c9, e9, r9⟩ := owns_i64B ho.out
      injection e9 with e9 _ _
      subst e9
      have r9' : IRow .i64 wr ad k ((List.replicate k 64).map fun (q : Nat) => (q : Int)) := by
        have e : (List.replicate k 64).map (fun (q : Nat) => (q : Int)) = List.replicate k (64 : Int) := by simp
        rw [e]; exact r9
      have HB9 : Hid (Below w.heap.size w wr) := HB1.out.trans (hbl.out.mono HB1.out.size)
      have HK9 : Hid (wr.heap[w.heap.size + 1]? = some (.cells #[.slice none 0 0, .slice none 0 0] 33 (0, 0))) := (hbl.out.block _ s1).trans HK1.out
      have s9 : w.heap.size + 1 < wr.heap.size := (Array.getElem?_eq_some_iff.1 HK9.out).1
      have HZ : Hid (stl xs ((wVal ws).zip (List.replicate k 64)) = stlAll xs (wVal ws)) := by
        show _ = _
        unfold stlAll
        congr 1
        rw [← hwl.out]
        exact zip_rep _
      have HR9 : Hid (IRow .i64 wr ad k ((List.replicate k 64).map fun (q : Nat) => (q : Int))) := r9'
      clear r9 r9' hx
      go_wp2_with fail
      refine (settle_any g off (nb * 64) ca p k cp xs ws ad _ (List.replicate k 64) _ (HA.out.below HB9.out) (HP.out.below HB9.out) HR9.out HOK.out (by omega) hn hm4).mono ?_
      rintro e w5 ⟨T, vs, a5, n5, c5, q5, m5, d5, rfl, hD5, hb5⟩
      rw [HZ.out] at hD5
      obtain ⟨p1, p2, p3, p4⟩ := two_cells ((hb5.block _ s9).trans HK9.out)
      have HB5 : Hid (Below w.heap.size w w5) := HB9.out.trans (hb5.mono HB9.out.size)
      have hF := fun u1 u2 => SAns.stored (w := w) hD5 s9 (by omega) HB5.out u1 u2
      have HF := Hid.out hF
      clear hF hD5 hb5 c1 c2
      go_wp2
      refine bodyPost_ret (v := .agg #[.slice a5 n5 c5, .slice q5 m5 d5]) (by simp [results, Try.results71, go_sem, p1, p2]) rfl ?_
      rw [HD.out]
      exact HF _ _
end Go.Proofs.Ytkkammbfomiofaa
