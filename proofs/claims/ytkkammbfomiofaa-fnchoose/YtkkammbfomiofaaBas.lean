/-
  l1Settle, DiskBarrier: the specification's.
-/
import Derived.Test.YtkkammbfomiofaaBab
import Derived.Test.YtkkammbfomiofaaDws
import Derived.Test.YtkkammbfomiofaaGa
namespace Go.Proofs.Ytkkammbfomiofaa
open Go.RowKit
set_option linter.unusedSimpArgs false
set_option linter.unusedVariables false

theorem wrap_small (x : Int) (h0 : 0 ≤ x) (h1 : x ≤ 4194304) : IntKind.i64.wrap x = x := by
  simp [IntKind.wrap, IntKind.bits, IntKind.signed]
  omega
theorem setL_zero (xs : List Int) (x : Int × List Int) : setL xs x 0 = xs := by simp [setL, spl]
theorem spl_get (xs : List Int) (o : Nat) (vs : List Int) (h : o + vs.length ≤ xs.length) (i : Nat) : (spl xs o vs)[i]? = if i < o then xs[i]? else if i < o + vs.length then vs[i - o]? else xs[i]? := by
  have l1 : (xs.take o).length = o := by simp; omega
  unfold spl
  by_cases h1 : i < o
  · rw [if_pos h1, List.append_assoc, List.getElem?_append_left (by omega), List.getElem?_take, if_pos h1]
  · rw [if_neg h1, List.append_assoc, List.getElem?_append_right (by omega), l1]
    by_cases h2 : i < o + vs.length
    · rw [if_pos h2, List.getElem?_append_left (by omega)]
    · rw [if_neg h2, List.getElem?_append_right (by omega), List.getElem?_drop]
      congr 1
      omega
theorem setL_succ (xs : List Int) (x : Int × List Int) (j : Nat) (hx : x.1.toNat * 64 + 64 ≤ xs.length) (hj : j < 64) (hX : x.2.length = 64) : setL xs x (j + 1) = (setL xs x j).set (x.1.toNat * 64 + j) (x.2[j]?.getD 0) := by
  have l1 : (x.2.take j).length = j := by rw [List.length_take]; omega
  have l2 : (x.2.take (j + 1)).length = j + 1 := by rw [List.length_take]; omega
  have hl : (setL xs x j).length = xs.length := setL_len xs x j hx (by omega)
  have hjl : j < x.2.length := by omega
  apply List.ext_getElem?
  intro i
  rw [List.getElem?_set]
  unfold setL at hl ⊢
  rw [spl_get _ _ _ (by rw [l2]; omega), spl_get _ _ _ (by rw [l1]; omega), l1, l2, hl]
  by_cases h1 : x.1.toNat * 64 + j = i
  · rw [if_pos h1, if_pos (show x.1.toNat * 64 + j < xs.length by omega), if_neg (show ¬ i < x.1.toNat * 64 by omega), if_pos (show i < x.1.toNat * 64 + (j + 1) by omega), List.getElem?_take, if_pos (show i - x.1.toNat * 64 < j + 1 by omega), show i - x.1.toNat * 64 = j by omega, List.getElem?_eq_getElem hjl]
    rfl
  · rw [if_neg h1]
    by_cases h2 : i < x.1.toNat * 64
    · rw [if_pos h2, if_pos h2]
    · rw [if_neg h2, if_neg h2]
      by_cases h3 : i < x.1.toNat * 64 + j
      · rw [if_pos (show i < x.1.toNat * 64 + (j + 1) by omega), if_pos h3, List.getElem?_take, List.getElem?_take, if_pos (show i - x.1.toNat * 64 < j + 1 by omega), if_pos (show i - x.1.toNat * 64 < j by omega)]
      · rw [if_neg (show ¬ i < x.1.toNat * 64 + (j + 1) by omega), if_neg h3]


theorem stl_len {n : Nat} : ∀ (l : List ((Int × List Int) × Nat)) (xs : List Int), xs.length = n → (∀ y ∈ l, y.1.1.toNat * 64 + 64 ≤ n ∧ y.2 ≤ 64) → (stl xs l).length = n
  | [], xs, h, _ => h
  | y :: l, xs, h, ho => by
    show (stl (setL xs y.1 y.2) l).length = n
    exact stl_len l _ (by rw [setL_len _ _ _ (by rw [h]; exact (ho y (by simp)).1) (ho y (by simp)).2]; exact h) (fun z hz => ho z (by simp [hz]))

set_option maxRecDepth 100000 in
set_option maxHeartbeats 1500000 in
theorem settle_any (g off n ca : Nat) (p : Option Addr) (m cp : Nat) (xs : List Int) (ws : List WV) (ba : Option Addr) (bc : Nat) (cs : List Nat) (w : World) (ha : IRow .u8 w (some ⟨g, off, none⟩) n xs) (hp : PRead w p m ws) (hcs : IRow .i64 w ba m (cs.map fun (c : Nat) => (c : Int)))
    (hok : ∀ k, k < m → 0 ≤ wBlk ws k ∧ (wBlk ws k).toNat * 64 + 64 ≤ n ∧ wN ws k = 64 ∧ cs[k]?.getD 0 ≤ 64) (hn0 : 0 < n) (hn : n ≤ 2097152) (hm : m ≤ 400) :
    Calls Try.prog 73 #[.agg #[.slice (some ⟨g, off, none⟩) n ca, .slice p m cp], .slice ba m bc] w fun e w' => SAns w w' e (stl xs ((wVal ws).zip cs)) [] := by
  have HP : Hid (PRead w p m ws) := hp
  have HC : Hid (IRow .i64 w ba m (cs.map fun (c : Nat) => (c : Int))) := hcs
  have HOK : Hid (∀ k, k < m → 0 ≤ wBlk ws k ∧ (wBlk ws k).toNat * 64 + 64 ≤ n ∧ wN ws k = 64 ∧ cs[k]?.getD 0 ≤ 64) := hok
  have HL : Hid (ws.length = m ∧ cs.length = m ∧ xs.length = n) := ⟨hp.1, by have := hcs.1; rwa [List.length_map] at this, ha.1⟩
  have HZL : Hid (((wVal ws).zip cs).length = m) := by show _ = _; simp [wVal_len, HL.out.1, HL.out.2.1]
  have HZ : Hid (∀ y ∈ (wVal ws).zip cs, y.1.1.toNat * 64 + 64 ≤ n ∧ y.2 ≤ 64) := fun y hy => by
    obtain ⟨k, hk⟩ := List.mem_iff_getElem?.1 hy
    have hkl : k < m := by have := (List.getElem?_eq_some_iff.1 hk).1; have := HZL.out; omega
    have h1 := HL.out.1
    have h2 := HL.out.2.1
    rw [List.getElem?_zip_eq_some] at hk
    obtain ⟨k1, k2⟩ := hk
    rw [List.getElem?_eq_getElem (by rw [wVal_len]; omega), wVal_at ws k (by omega)] at k1
    injection k1 with k1
    have := hok k hkl
    rw [← k1]
    refine ⟨this.2.1, ?_⟩
    rw [k2] at this
    exact this.2.2.2
  have HYL : Hid (∀ k, (stl xs (((wVal ws).zip cs).take k)).length = n) := fun k => stl_len _ _ HL.out.2.2 (fun y hy => HZ.out y (List.mem_of_mem_take hy))
  clear hp hcs hok
  go_enter Try.func73, Try.ntmps73
  go_wp2_with fail
  refine (l1Copy_any _ _ _ xs _ ((ha.alloc _).alloc _) hn).mono ?_
  rintro e w2 ⟨s2, rfl, hown2, hb2⟩
  have szA : ((w.alloc (Obj.cells #[.slice (some ⟨g, off, none⟩) n ca, .slice p m cp] 33)).alloc (Obj.cells #[.slice none 0 0, .slice none 0 0] 33)).heap.size = w.heap.size + 2 := by simp
  rw [szA] at hown2
  obtain ⟨ga, gc, rfl, hgaB, hh2⟩ : ∃ ga gc, s2 = .slice (some ⟨ga, 0, none⟩) n gc ∧ w.heap.size + 2 ≤ ga ∧ ga < w2.heap.size := by
    rcases hown2.2 with ⟨_, h0⟩ | ⟨g', cap', cur, e, hB, hh, _⟩
    · omega
    · exact ⟨g', cap', e, hB, (Array.getElem?_eq_some_iff.1 hh).1⟩
  have k2 : w2.heap[w.heap.size]? = some (.cells #[.slice (some ⟨g, off, none⟩) n ca, .slice p m cp] 33 (0, 0)) := (hb2.block _ (by rw [szA]; omega)).trans (heap_alloc2_old w _ _)
  have r2 : w2.heap[w.heap.size + 1]? = some (.cells #[.slice none 0 0, .slice none 0 0] 33 (0, 0)) := (hb2.block _ (by rw [szA]; omega)).trans (heap_alloc2_new w _ _)
  have hB2 : Below w.heap.size w w2 := (((Below.refl _ w).alloc (Nat.le_refl _) _).alloc (by simp) _).trans (hb2.mono (by simp; omega))
  obtain ⟨Dv, hDv⟩ : ∃ Dv, w2.heap.size = Dv := ⟨_, rfl⟩
  have bD := (Below.refl _ w2).alloc (Nat.le_refl _) (Obj.cells #[.slice (some ⟨ga, 0, none⟩) n gc, .slice none 0 0] 33)
  have HK3 : Hid ((w2.alloc (Obj.cells #[.slice (some ⟨ga, 0, none⟩) n gc, .slice none 0 0] 33)).heap[w.heap.size]? = some (.cells #[.slice (some ⟨g, off, none⟩) n ca, .slice p m cp] 33 (0, 0))) := (bD.block _ (by omega)).trans k2
  have HR3 : Hid ((w2.alloc (Obj.cells #[.slice (some ⟨ga, 0, none⟩) n gc, .slice none 0 0] 33)).heap[w.heap.size + 1]? = some (.cells #[.slice none 0 0, .slice none 0 0] 33 (0, 0))) := (bD.block _ (by omega)).trans r2
  have HD3 : Hid ((w2.alloc (Obj.cells #[.slice (some ⟨ga, 0, none⟩) n gc, .slice none 0 0] 33)).heap[Dv]? = some (.cells #[.slice (some ⟨ga, 0, none⟩) n gc, .slice none 0 0] 33 (0, 0))) := by rw [← hDv]; exact heap_alloc_new w2 _
  have HC3 : Hid (Cells .u8 (w2.alloc (Obj.cells #[.slice (some ⟨ga, 0, none⟩) n gc, .slice none 0 0] 33)) ga 0 n (fun i => (stl xs (((wVal ws).zip cs).take 0))[i]?.getD 0)) := by
    obtain ⟨a9, c9, e9, r9⟩ := owns_row hown2
    injection e9 with e9
    subst e9
    have r9' := r9.below bD
    rcases r9'.2 with h0 | ⟨q, qo, e, _, hc⟩
    · omega
    · injection e with e; injection e with e1 e2; subst e1; subst e2
      exact hc
  have HO3 : Hid (Roomy (w2.alloc (Obj.cells #[.slice (some ⟨ga, 0, none⟩) n gc, .slice none 0 0] 33)) (w.heap.size + 2) 5 1 (.slice (some ⟨ga, 0, none⟩) n gc) n) := Roomy.alloc ⟨_, hown2⟩ _
  have HB3 : Hid (Below w.heap.size w (w2.alloc (Obj.cells #[.slice (some ⟨ga, 0, none⟩) n gc, .slice none 0 0] 33))) := hB2.trans (bD.mono hB2.size)
  have HDV : Hid (w.heap.size + 2 ≤ ga ∧ ga < Dv) := ⟨hgaB, by omega⟩
  clear hown2 hb2 szA k2 r2 hB2 bD ha hgaB hh2
  go_wp2
  try rw [hDv]
  go_loopw [6] (fun i wr => ∃ k : Nat, k ≤ m ∧ i = .int .i64 k ∧ Hid (wr.heap[Dv]? = some (.cells #[.slice (some ⟨ga, 0, none⟩) n gc, .slice none 0 0] 33 (0, 0))) ∧ Hid (wr.heap[w.heap.size + 1]? = some (.cells #[.slice none 0 0, .slice none 0 0] 33 (0, 0))) ∧ Hid (wr.heap[w.heap.size]? = some (.cells #[.slice (some ⟨g, off, none⟩) n ca, .slice p m cp] 33 (0, 0))) ∧ Hid (Cells .u8 wr ga 0 n (fun i => (stl xs (((wVal ws).zip cs).take k))[i]?.getD 0)) ∧ Hid (Roomy wr (w.heap.size + 2) 5 1 (.slice (some ⟨ga, 0, none⟩) n gc) n) ∧ Hid (Below w.heap.size w wr)) (fun i _ => m - (intOf i).toNat)
  case atStart => exact ⟨0, Nat.zero_le _, rfl, HD3, HR3, HK3, HC3, HO3, HB3⟩
  case round =>
    clear HD3 HR3 HK3 HC3 HO3 HB3 hDv
    obtain ⟨k, hk, rfl, hd, hrr, hbx, hce, hro, hbl⟩ := hrel
    obtain ⟨b1, b2, _, _⟩ := two_cells hbx.out
    have sN : w.heap.size < wr.heap.size := (Array.getElem?_eq_some_iff.1 hbx.out).1
    by_cases hlt : k < m
    · obtain ⟨_, hc, hdd⟩ := HP.out
      rcases hc with h0' | ⟨gp, offp, he, hc⟩
      · omega
      subst he
      obtain ⟨c1, c2⟩ := hc k hlt
      obtain ⟨hrd0, _⟩ := hdd k hlt
      obtain ⟨ok1, ok2, ok3, ok4⟩ := HOK.out k hlt
      rw [ok3] at c2 hrd0
      obtain ⟨hX, hX2⟩ := hrd0
      rcases hX2 with h0' | ⟨gd, od, hed, hcd⟩
      · omega
      rw [hed] at c2
      obtain ⟨bk, hbk⟩ : ∃ bk : Nat, wBlk ws k = (bk : Int) := ⟨(wBlk ws k).toNat, by omega⟩
      rw [hbk] at c1
      have lg : gp < w.heap.size := World.block_lt_of_cell? w _ c1
      have lgd : gd < w.heap.size := World.block_lt_of_cell? w _ (hcd 0 (by omega))
      have hbn : bk * 64 + 64 ≤ n := by rw [hbk] at ok2; simpa using ok2
      obtain ⟨_, hC2⟩ := HC.out
      rcases hC2 with h0' | ⟨gb, ob, heb, hcb⟩
      · omega
      subst heb
      have cb := hcb k hlt
      have lgb : gb < w.heap.size := World.block_lt_of_cell? w _ cb
      obtain ⟨c, hcc⟩ : ∃ c, cs[k]?.getD 0 = c := ⟨_, rfl⟩
      have hcl : k < cs.length := by have := HL.out.2.1; omega
      have cb' : w.cell? ⟨gb, ob + k, none⟩ = some (.int .i64 (c : Int)) := by
        rw [cb, ← hcc]
        simp [List.getElem?_eq_getElem hcl]
      rw [hcc] at ok4
      have HYS : Hid (stl xs (((wVal ws).zip cs).take (k + 1)) = setL (stl xs (((wVal ws).zip cs).take k)) (wBlk ws k, wBs ws k) c) := by
        show _ = _
        have hkz : k < ((wVal ws).zip cs).length := by rw [HZL.out]; exact hlt
        rw [List.take_succ_eq_append_getElem hkz, stl_snoc]
        have e1 : ((wVal ws).zip cs)[k] = ((wBlk ws k, wBs ws k), c) := by
          rw [List.getElem_zip, wVal_at ws k (by have := HL.out.1; omega)]
          rw [List.getElem?_eq_getElem hcl] at hcc
          simp at hcc
          rw [hcc]
        rw [e1]
      have hyl := HYL.out k
      have HCE0 : Hid (Cells .u8 wr ga 0 n (fun i => (setL (stl xs (((wVal ws).zip cs).take k)) (wBlk ws k, wBs ws k) 0)[i]?.getD 0)) := by
        show Cells _ _ _ _ _ _
        rw [setL_zero]
        exact hce.out
      have HSET : Hid (∀ j, j < 64 → setL (stl xs (((wVal ws).zip cs).take k)) (wBlk ws k, wBs ws k) (j + 1) = (setL (stl xs (((wVal ws).zip cs).take k)) (wBlk ws k, wBs ws k) j).set (bk * 64 + j) ((wBs ws k)[j]?.getD 0)) := fun j hj => by
        have := setL_succ (stl xs (((wVal ws).zip cs).take k)) (wBlk ws k, wBs ws k) j (by rw [hyl, hbk]; simpa using hbn) hj hX
        rw [hbk] at this
        rw [hbk]
        simpa using this
      have HSL : Hid (∀ j, j ≤ 64 → (setL (stl xs (((wVal ws).zip cs).take k)) (wBlk ws k, wBs ws k) j).length = n) := fun j hj => by
        rw [setL_len _ _ _ (by rw [hyl, hbk]; simpa using hbn) hj, hyl]
      generalize hYS : stl xs (((wVal ws).zip cs).take k) = YY at *
      generalize hXX : (wBlk ws k, wBs ws k) = XX at *
      clear hc hdd hcb hed cb hce hX hyl hcc hYS
      go_wp2
      go_loopw [7] (fun i wr => ∃ j : Nat, j ≤ c ∧ i = .int .i64 j ∧ Hid (wr.heap[Dv]? = some (.cells #[.slice (some ⟨ga, 0, none⟩) n gc, .slice none 0 0] 33 (0, 0))) ∧ Hid (wr.heap[w.heap.size + 1]? = some (.cells #[.slice none 0 0, .slice none 0 0] 33 (0, 0))) ∧ Hid (wr.heap[w.heap.size]? = some (.cells #[.slice (some ⟨g, off, none⟩) n ca, .slice (some ⟨gp, offp, none⟩) m cp] 33 (0, 0))) ∧ Hid (Cells .u8 wr ga 0 n (fun i => (setL YY XX j)[i]?.getD 0)) ∧ Hid (Roomy wr (w.heap.size + 2) 5 1 (.slice (some ⟨ga, 0, none⟩) n gc) n) ∧ Hid (Below w.heap.size w wr)) (fun i _ => c - (intOf i).toNat)
      case atStart => exact ⟨0, Nat.zero_le _, rfl, hd, hrr, hbx, HCE0, hro, hbl⟩
      case round =>
        clear hro
        obtain ⟨j, hj, rfl, hd, hrr, hbx, hce, hro, hbl⟩ := hrel
        obtain ⟨b1, b2, _, _⟩ := two_cells hbx.out
        obtain ⟨d1, d2, d3, d4⟩ := two_cells hd.out
        have sN : w.heap.size < wr.heap.size := (Array.getElem?_eq_some_iff.1 hbx.out).1
        have q5 : wr.cell? ⟨gb, ob + k, none⟩ = some (.int .i64 (c : Int)) := (hbl.out.cell (p := ⟨gb, ob + k, none⟩) lgb).trans cb'
        by_cases hjl : j < c
        · have q1 : wr.cell? ⟨gp, offp + k * 2, none⟩ = some (.int .i64 (bk : Int)) := (hbl.out.cell (p := ⟨gp, offp + k * 2, none⟩) lg).trans c1
          have q2 : wr.cell? ⟨gp, offp + k * 2 + 1, none⟩ = some (.slice (some ⟨gd, od, none⟩) 64 (wC ws k)) := (hbl.out.cell (p := ⟨gp, offp + k * 2 + 1, none⟩) lg).trans c2
          have q3 : wr.cell? ⟨gd, od + j, none⟩ = some (.int .u8 ((wBs ws k)[j]?.getD 0)) := (hbl.out.cell (p := ⟨gd, od + j, none⟩) lgd).trans (hcd j (by omega))
          have hix : bk * 64 + j < n := by omega
          have q4 := (hce.out (bk * 64 + j) hix).1
          have q4f := (hce.out (bk * 64 + j) hix).2
          rw [Nat.zero_add] at q4 q4f
          have zz := HDV.out
          have ksG : Kept (fun q => q = ga) wr (wr.drew.setCell ⟨ga, bk * 64 + j, none⟩ (.int .u8 ((wBs ws k)[j]?.getD 0))) := (Kept.drew wr _).trans (Kept.setCell wr.drew ⟨ga, bk * 64 + j, none⟩ _ (fun q => q = ga) rfl)
          have hd6 : Hid ((wr.drew.setCell ⟨ga, bk * 64 + j, none⟩ (.int .u8 ((wBs ws k)[j]?.getD 0))).heap[Dv]? = some (.cells #[.slice (some ⟨ga, 0, none⟩) n gc, .slice none 0 0] 33 (0, 0))) := (ksG.block _ (Array.getElem?_eq_some_iff.1 hd.out).1 (by omega)).trans hd.out
          have hr6 : Hid ((wr.drew.setCell ⟨ga, bk * 64 + j, none⟩ (.int .u8 ((wBs ws k)[j]?.getD 0))).heap[w.heap.size + 1]? = some (.cells #[.slice none 0 0, .slice none 0 0] 33 (0, 0))) := (ksG.block _ (Array.getElem?_eq_some_iff.1 hrr.out).1 (by omega)).trans hrr.out
          have hx6 : Hid ((wr.drew.setCell ⟨ga, bk * 64 + j, none⟩ (.int .u8 ((wBs ws k)[j]?.getD 0))).heap[w.heap.size]? = some (.cells #[.slice (some ⟨g, off, none⟩) n ca, .slice (some ⟨gp, offp, none⟩) m cp] 33 (0, 0))) := (ksG.block _ sN (by omega)).trans hbx.out
          have hc6 : Hid (Cells .u8 (wr.drew.setCell ⟨ga, bk * 64 + j, none⟩ (.int .u8 ((wBs ws k)[j]?.getD 0))) ga 0 n (fun i => (setL YY XX (j + 1))[i]?.getD 0)) := by
            show Cells _ _ _ _ _ _
            have h1 : Cells .u8 wr.drew ga 0 n (fun i => (setL YY XX j)[i]?.getD 0) := hce.out.drew
            have := h1.set (bk * 64 + j) hix ((wBs ws k)[j]?.getD 0) (fun i => (setL YY XX (j + 1))[i]?.getD 0) (fun i hi => by
              show (setL YY XX (j + 1))[i]?.getD 0 = _
              rw [HSET.out j (by omega), List.getElem?_set]
              by_cases e : bk * 64 + j = i
              · subst e
                rw [if_pos rfl, if_pos (by rw [HSL.out j (by omega)]; exact hix), if_pos rfl]; rfl
              · rw [if_neg e, if_neg (fun e' => e e'.symm)])
            rwa [Nat.zero_add] at this
          have ho6 : Hid (Roomy (wr.drew.setCell ⟨ga, bk * 64 + j, none⟩ (.int .u8 ((wBs ws k)[j]?.getD 0))) (w.heap.size + 2) 5 1 (.slice (some ⟨ga, 0, none⟩) n gc) n) := Roomy.setCell (w := wr.drew) hro.out _ _ _
          have hb6 : Hid (Below w.heap.size w (wr.drew.setCell ⟨ga, bk * 64 + j, none⟩ (.int .u8 ((wBs ws k)[j]?.getD 0)))) := (hbl.out.drew).setCell (by show w.heap.size ≤ ga; omega) _
          have hS7 : ((wr.drew.setCell ⟨ga, bk * 64 + j, none⟩ (.int .u8 ((wBs ws k)[j]?.getD 0))).cell? ⟨Dv, 0, none⟩ = some (.slice (some ⟨ga, 0, none⟩) n gc) ∧ (wr.drew.setCell ⟨ga, bk * 64 + j, none⟩ (.int .u8 ((wBs ws k)[j]?.getD 0))).cell? ⟨w.heap.size, 1, none⟩ = some (.slice (some ⟨gp, offp, none⟩) m cp) ∧ (wr.drew.setCell ⟨ga, bk * 64 + j, none⟩ (.int .u8 ((wBs ws k)[j]?.getD 0))).cell? ⟨gp, offp + k * 2, none⟩ = some (.int .i64 (bk : Int)) ∧ (wr.drew.setCell ⟨ga, bk * 64 + j, none⟩ (.int .u8 ((wBs ws k)[j]?.getD 0))).cell? ⟨gp, offp + k * 2 + 1, none⟩ = some (.slice (some ⟨gd, od, none⟩) 64 (wC ws k)) ∧ (wr.drew.setCell ⟨ga, bk * 64 + j, none⟩ (.int .u8 ((wBs ws k)[j]?.getD 0))).cell? ⟨gd, od + j, none⟩ = some (.int .u8 ((wBs ws k)[j]?.getD 0))) := ⟨(two_cells hd6.out).1, (two_cells hx6.out).2.1, (hb6.out.cell (p := ⟨gp, offp + k * 2, none⟩) lg).trans c1, (hb6.out.cell (p := ⟨gp, offp + k * 2 + 1, none⟩) lg).trans c2, (hb6.out.cell (p := ⟨gd, od + j, none⟩) lgd).trans (hcd j (by omega))⟩
          have HS7 : Hid (_ ∧ _) := hS7
          have hix' : (bk : Int) * 64 + (j : Int) < (n : Int) := by omega
          have hi0 : (0 : Int) ≤ (bk : Int) * 64 + (j : Int) := by omega
          have tn : ((bk : Int) * 64 + (j : Int)).toNat = bk * 64 + j := by omega
          have w8' : IntKind.i64.wrap ((bk : Int) * 64) = (bk : Int) * 64 := wrap_small _ (by omega) (by omega)
          have w10' : IntKind.i64.wrap ((bk : Int) * 64 + (j : Int)) = (bk : Int) * 64 + (j : Int) := wrap_small _ (by omega) (by omega)
          have hj0 : (0 : Int) ≤ (j : Int) := by omega
          have hj64 : (j : Int) < 64 := by omega
          have gal : ga < wr.heap.size := World.block_lt_of_cell? wr _ q4
          clear hS7 ksG zz
          go_wp2
          refine wp_region_held_drew (S := fun V => V.cell? ⟨Dv, 0, none⟩ = some (.slice (some ⟨ga, 0, none⟩) n gc) ∧ V.cell? ⟨w.heap.size, 1, none⟩ = some (.slice (some ⟨gp, offp, none⟩) m cp) ∧ V.cell? ⟨gp, offp + k * 2, none⟩ = some (.int .i64 (bk : Int)) ∧ V.cell? ⟨gp, offp + k * 2 + 1, none⟩ = some (.slice (some ⟨gd, od, none⟩) 64 (wC ws k)) ∧ V.cell? ⟨gd, od + j, none⟩ = some (.int .u8 ((wBs ws k)[j]?.getD 0))) (by kernel_rfl) ⟨d1, b2, q1, q2, q3⟩ (fun hS => ?_)
          refine wpAnyH_take (i := 0) (v := .pointer (some ⟨Dv, 0, none⟩)) rfl (by kernel_rfl) (by kernel_rfl) (by kernel_rfl) (fun _ _ _ h => h) (Or.inl ⟨rfl, fun V hV => by go_simp⟩) hS ?_
          refine wpAnyH_take (i := 1) (v := .slice (some ⟨ga, 0, none⟩) n gc) rfl (by kernel_rfl) (by kernel_rfl) (by kernel_rfl) (fun _ _ _ h => h) (Or.inl ⟨rfl, fun V hV => by obtain ⟨h1, h2, h3, h4, h5⟩ := hV; go_simp⟩) hS ?_
          refine wpAnyH_take (i := 2) (v := .pointer (some ⟨w.heap.size, 1, none⟩)) rfl (by kernel_rfl) (by kernel_rfl) (by kernel_rfl) (fun _ _ _ h => h) (Or.inl ⟨rfl, fun V hV => by go_simp⟩) hS ?_
          refine wpAnyH_take (i := 3) (v := .slice (some ⟨gp, offp, none⟩) m cp) rfl (by kernel_rfl) (by kernel_rfl) (by kernel_rfl) (fun _ _ _ h => h) (Or.inl ⟨rfl, fun V hV => by obtain ⟨h1, h2, h3, h4, h5⟩ := hV; go_simp⟩) hS ?_
          refine wpAnyH_take (i := 4) (v := .int .i64 (k : Int)) rfl (by kernel_rfl) (by kernel_rfl) (by kernel_rfl) (fun _ _ _ h => h) (Or.inl ⟨rfl, fun V hV => by go_simp⟩) hS ?_
          refine wpAnyH_take (i := 5) (v := .pointer (some ⟨gp, offp + k * 2, none⟩)) rfl (by kernel_rfl) (by kernel_rfl) (by kernel_rfl) (fun _ _ _ h => h) (Or.inl ⟨rfl, fun V hV => by go_simp⟩) hS ?_
          refine wpAnyH_take (i := 6) (v := .pointer (some ⟨gp, offp + k * 2, none⟩)) rfl (by kernel_rfl) (by kernel_rfl) (by kernel_rfl) (fun _ _ _ h => h) (Or.inl ⟨rfl, fun V hV => by go_simp⟩) hS ?_
          refine wpAnyH_take (i := 7) (v := .int .i64 (bk : Int)) rfl (by kernel_rfl) (by kernel_rfl) (by kernel_rfl) (fun _ _ _ h => h) (Or.inl ⟨rfl, fun V hV => by obtain ⟨h1, h2, h3, h4, h5⟩ := hV; go_simp⟩) hS ?_
          refine wpAnyH_take (i := 8) (v := .int .i64 ((bk : Int) * 64)) rfl (by kernel_rfl) (by kernel_rfl) (by kernel_rfl) (fun _ _ _ h => h) (Or.inl ⟨rfl, fun V hV => by go_simp⟩) hS ?_
          refine wpAnyH_take (i := 9) (v := .int .i64 (j : Int)) rfl (by kernel_rfl) (by kernel_rfl) (by kernel_rfl) (fun _ _ _ h => h) (Or.inl ⟨rfl, fun V hV => by go_simp⟩) hS ?_
          refine wpAnyH_take (i := 10) (v := .int .i64 ((bk : Int) * 64 + (j : Int))) rfl (by kernel_rfl) (by kernel_rfl) (by kernel_rfl) (fun _ _ _ h => h) (Or.inl ⟨rfl, fun V hV => by go_simp⟩) hS ?_
          refine wpAnyH_take (i := 11) (v := .pointer (some ⟨w.heap.size, 1, none⟩)) rfl (by kernel_rfl) (by kernel_rfl) (by kernel_rfl) (fun _ _ _ h => h) (Or.inl ⟨rfl, fun V hV => by go_simp⟩) hS ?_
          refine wpAnyH_take (i := 12) (v := .slice (some ⟨gp, offp, none⟩) m cp) rfl (by kernel_rfl) (by kernel_rfl) (by kernel_rfl) (fun _ _ _ h => h) (Or.inl ⟨rfl, fun V hV => by obtain ⟨h1, h2, h3, h4, h5⟩ := hV; go_simp⟩) hS ?_
          refine wpAnyH_take (i := 13) (v := .int .i64 (k : Int)) rfl (by kernel_rfl) (by kernel_rfl) (by kernel_rfl) (fun _ _ _ h => h) (Or.inl ⟨rfl, fun V hV => by go_simp⟩) hS ?_
          refine wpAnyH_take (i := 14) (v := .pointer (some ⟨gp, offp + k * 2, none⟩)) rfl (by kernel_rfl) (by kernel_rfl) (by kernel_rfl) (fun _ _ _ h => h) (Or.inl ⟨rfl, fun V hV => by go_simp⟩) hS ?_
          refine wpAnyH_take (i := 15) (v := .pointer (some ⟨gp, offp + k * 2 + 1, none⟩)) rfl (by kernel_rfl) (by kernel_rfl) (by kernel_rfl) (fun _ _ _ h => h) (Or.inl ⟨rfl, fun V hV => by go_simp⟩) hS ?_
          refine wpAnyH_take (i := 16) (v := .slice (some ⟨gd, od, none⟩) 64 (wC ws k)) rfl (by kernel_rfl) (by kernel_rfl) (by kernel_rfl) (fun _ _ _ h => h) (Or.inl ⟨rfl, fun V hV => by obtain ⟨h1, h2, h3, h4, h5⟩ := hV; go_simp⟩) hS ?_
          refine wpAnyH_take (i := 17) (v := .int .i64 (j : Int)) rfl (by kernel_rfl) (by kernel_rfl) (by kernel_rfl) (fun _ _ _ h => h) (Or.inl ⟨rfl, fun V hV => by go_simp⟩) hS ?_
          refine wpAnyH_take (i := 18) (v := .pointer (some ⟨gd, od + j, none⟩)) rfl (by kernel_rfl) (by kernel_rfl) (by kernel_rfl) (fun _ _ _ h => h) (Or.inl ⟨rfl, fun V hV => by go_simp⟩) hS ?_
          refine wpAnyH_take (i := 19) (v := .int .u8 ((wBs ws k)[j]?.getD 0)) rfl (by kernel_rfl) (by kernel_rfl) (by kernel_rfl) (fun _ _ _ h => h) (Or.inl ⟨rfl, fun V hV => by obtain ⟨h1, h2, h3, h4, h5⟩ := hV; go_simp⟩) hS ?_
          refine wpAnyH_take (i := 20) (v := .pointer (some ⟨ga, bk * 64 + j, none⟩)) rfl (by kernel_rfl) (by kernel_rfl) (by kernel_rfl) (fun _ _ _ h => h) (Or.inl ⟨rfl, fun V hV => by go_simp⟩) hS ?_
          refine wpAnyH_ready (rs := [21]) (by kernel_rfl) (by simp) (AllReadyH.cons rfl (fun K hK => ?_) AllReadyH.nil)
          go_simp
          refine hK.out _ _ HS7.out (fun _ => ?_)
          refine wpAnyH_done (by kernel_rfl) ?_ _
          clear hK K hS
          go_wp2
          go_roundw
          case rel => exact ⟨j + 1, by omega, by go_num, hd6, hr6, hx6, hc6, ho6, hb6⟩
          case measure => simp [intOf]; omega
        · obtain rfl : j = c := by omega
          have hce9 : Hid (Cells .u8 wr ga 0 n (fun i => (stl xs (((wVal ws).zip cs).take (k + 1)))[i]?.getD 0)) := by
            show Cells _ _ _ _ _ _
            rw [HYS.out]
            exact hce.out
          clear hce
          go_wp2
          go_roundw
          case rel => exact ⟨k + 1, by omega, by go_num, hd, hrr, hbx, hce9, hro, hbl⟩
          case measure => simp [intOf]; omega
    · obtain rfl : k = m := by omega
      obtain ⟨n1, n2, n3, n4⟩ := two_cells hrr.out
      obtain ⟨d1, d2, d3, d4⟩ := two_cells hd.out
      have zz := HDV.out
      have hfull : ((wVal ws).zip cs).take k = (wVal ws).zip cs := List.take_of_length_le (by rw [HZL.out]; exact Nat.le_refl _)
      have hyl := HYL.out k
      have hfin : ∀ u1 u2, SAns w ((wr.setCell ⟨w.heap.size + 1, 0, none⟩ u1).setCell ⟨w.heap.size + 1, 1, none⟩ u2) (.returned (.agg #[.slice (some ⟨ga, 0, none⟩) n gc, .slice none 0 0])) (stl xs ((wVal ws).zip cs)) [] := fun u1 u2 => by
        have hr : Row .u8 (fun q => q = ga) wr (some ⟨ga, 0, none⟩) n (stl xs ((wVal ws).zip cs)) := by
          have := hce.out
          rw [hfull] at this hyl
          exact this.row rfl hyl (fun i _ => rfl)
        exact SAns.stored (B := w.heap.size + 2) ⟨hro.out.row hr, PAcc.nil _ _ _, rfl, rfl, hn, by omega⟩ (by omega) (by omega) hbl.out u1 u2
      have HFIN := Hid.out hfin
      clear hfin hyl hce zz hfull hro
      go_wp2
      refine bodyPost_ret (v := .agg #[.slice (some ⟨ga, 0, none⟩) n gc, .slice none 0 0]) (by simp [results, Try.results73, go_sem, n1, n2]) rfl ?_
      exact HFIN (.slice (some ⟨ga, 0, none⟩) n gc) (.slice none 0 0)
end Go.Proofs.Ytkkammbfomiofaa
