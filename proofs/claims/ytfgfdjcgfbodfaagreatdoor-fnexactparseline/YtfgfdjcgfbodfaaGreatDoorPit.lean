/-
  The program's parseTruncate and parseFill, of one field and more.
-/
import Derived.Test.YtfgfdjcgfbodfaaGreatDoorPir
import Derived.BigRegion
namespace Go.Proofs.YtfgfdjcgfbodfaaGreatDoor
open Go.RowKit
set_option linter.unusedSimpArgs false
set_option linter.unusedVariables false

set_option maxHeartbeats 4000000 in
set_option maxRecDepth 100000 in
theorem parseFill_any (g off n k c : Nat) (s : ByteArray) (r : List ByteArray) (w : World) (hk : n - 1 = k) (h1 : 1 ≤ n) (hl : r.length = k) (h0 : w.cell? ⟨g, off, none⟩ = some (.string s)) (hcell : ∀ i, i < k → w.cell? ⟨g, off + 1 + i, none⟩ = some (.string (sAt r i))) (hz : ∀ i, i < k → (sAt r i).size ≤ 1048576) (hn : n ≤ 1048576) (hc : n ≤ c) (hcm : c ≤ 9223372036854775807) :
    Calls Tryz.prog 29 #[.slice (some ⟨g, off, none⟩) n c] w fun e w' => LAns w w' e (fillOf (s :: r)) := by
  obtain ⟨W0, hW0, HS⟩ := line_world w
  obtain ⟨W1, hW1⟩ : ∃ W1, W0.alloc (.cells #[.int .i64 0, .int .i64 2000, .int .i64 0, .int .i64 25] 64) = W1 := ⟨_, rfl⟩
  have hb0 : Below W0.heap.size W0 W1 := by rw [← hW1]; exact (Below.refl _ _).alloc (Nat.le_refl _) _
  have hg1 : W1.heap[W0.heap.size]? = some (.cells #[.int .i64 0, .int .i64 2000, .int .i64 0, .int .i64 25] 64 (0, 0)) := by rw [← hW1]; exact heap_alloc_new W0 _
  have hbr : BRow W1 (some ⟨W0.heap.size, 0, none⟩) 2 [(0, 2000), (0, 25)] := ⟨rfl, .inr ⟨_, rfl, fun i hi => by
    match i, hi with
    | 0, _ => exact ⟨by rw [World.cell?, hg1]; rfl, by rw [World.cell?, hg1]; rfl⟩
    | 1, _ => exact ⟨by rw [World.cell?, hg1]; rfl, by rw [World.cell?, hg1]; rfl⟩
    ⟩⟩
  have HB1 : Hid (Below w.heap.size w W1) := HS.out.1.trans (hb0.mono HS.out.1.size)
  have HBK : Hid (W1.heap[w.heap.size]? = some (.cells #[.int .i64 0, .int .i64 0, .string ⟨#[]⟩, .string ⟨#[]⟩, .int .i64 0, .slice none 0 0] 27 (0, 0)) ∧ w.heap.size + 1 ≤ W1.heap.size) := ⟨(hb0.block _ (by rw [HS.out.2.2]; omega)).trans HS.out.2.1, by have := hb0.size; rw [HS.out.2.2] at this; exact this⟩
  have hgl : g < w.heap.size := World.block_lt_of_cell? w _ h0
  have HR1 : Hid (∀ i, i < k → W1.cell? ⟨g, off + 1 + i, none⟩ = some (.string (sAt r i))) := fun i hi => (HB1.out.cell (World.block_lt_of_cell? w _ (hcell i hi))).trans (hcell i hi)
  have HSR : Hid (SRow W1 (some ⟨g, off + 1, none⟩) k r) := ⟨hl, .inr ⟨g, off + 1, rfl, HR1.out⟩⟩
  have HSN : Hid (n = 1 → SRow W1 (some ⟨g, off, none⟩) k r) := fun h => ⟨hl, .inl (by omega)⟩
  obtain ⟨q, hq⟩ : ∃ q, onlyOk [(0, 2000), (0, 25)] r = q := ⟨_, rfl⟩
  have HN : Hid (∀ a, SRow W1 a k r → Calls Tryz.prog 40 #[.slice a k (c - 1), .slice (some ⟨W0.heap.size, 0, none⟩) 2 2] W1 fun e w' => ∃ v, e = .returned (.tuple #[v, .bool q]) ∧ (q = true → w'.ownsRow W1.heap.size 2 1 v k (i64G (numsOf r))) ∧ (q = false → v = .slice none 0 0) ∧ Below W1.heap.size W1 w') := fun a ha => by
    have h := only_any a (some ⟨W0.heap.size, 0, none⟩) k (c - 1) 2 2 r [(0, 2000), (0, 25)] W1 ha hz (by omega) hbr (by omega)
    rw [hq] at h
    exact h
  have HQ : Hid (q = true → r.length = 2) := fun h => by
    subst h
    unfold onlyOk at hq
    rw [Bool.and_eq_true, decide_eq_true_iff] at hq
    exact hq.1
  have HLN := Lib.hid hl
  have HM : Hid (fillOf (s :: r) = if q = true then .call 1 s ⟨(lettersL (nAt r 0).toNat (nAt r 1).toNat).toArray⟩ 0 else .bad) := by show _ = _; rw [fillOf, hq]
  have HXY : Hid (q = true → ∃ (i j : Nat), nAt r 0 = i ∧ nAt r 1 = j ∧ i ≤ 2000 ∧ j ≤ 25) := fun h => by
    rw [h, only_2] at hq
    simp only [Bool.and_eq_true] at hq
    have h1 := hq.2.2.1
    have h2 := hq.2.2.2
    simp [inB] at h1 h2
    exact ⟨(nAt r 0).toNat, (nAt r 1).toNat, by omega, by omega, by omega, by omega⟩
  generalize fillOf (s :: r) = T at *
  have hn0 : ((n : Int) == 0) = false := by rw [beq_eq_false_iff_ne]; omega
  have hnl : ¬ (n : Int) < 1 := by omega
  have hle1 : (1 : Int) ≤ (n : Int) := by omega
  have h0n : (0 : Int) < (n : Int) := by omega
  have hlt0 : 0 < n := by omega
  have H0 := Lib.hid h0
  have d0 : W1.cell? ⟨g, off, none⟩ = some (.string s) := (HB1.out.cell hgl).trans h0
  clear hb0 hg1 hbr hcell hz hq hl h0
  have h3 : (n = 1 ∧ c = 1) ∨ ¬ c = 1 := by omega
  rcases h3 with ⟨e1, ec⟩ | ec
  case' inl =>
    have HSS := Lib.hid (HSN.out e1)
    subst ec
    clear e1
    go_enter Tryz.func29, Tryz.ntmps29
    go_wp2_with fail
    refine (HN.out _ HSS.out).mono ?_
  case' inr =>
    have HSS := Lib.hid HSR.out
    go_enter Tryz.func29, Tryz.ntmps29
    go_wp2_with fail
    refine (HN.out _ HSS.out).mono ?_
  all_goals
    rintro e w1 ⟨v, rfl, hv1, hv2, hb1⟩
    have hB1 := HB1.out.trans (hb1.mono HB1.out.size)
    have hblk := (hb1.block w.heap.size (by have := HBK.out.2; omega)).trans HBK.out.1
    have hw1 : w.heap.size + 1 ≤ w1.heap.size := Nat.le_trans HBK.out.2 hb1.size
    have HV1 := Lib.hid hv1
    have HV2 := Lib.hid hv2
    have c0 : w1.cell? ⟨g, off, none⟩ = some (.string s) := (hB1.cell hgl).trans H0.out
    clear hb1 hv1 hv2 HN hW0 hW1 HSS HSR HSN HR1 d0
    cases q
    case false =>
      obtain rfl := HV2.out rfl
      obtain ⟨⟨x0, x1, x2, x3, x4, x5⟩, f0, f1, f2, f3, f4, f5⟩ := six_of hblk
      have HL : Hid (T = .bad) := HM.out
      clear HV1 HV2 hblk HM
      go_wp2
      rw [HL.out]
      refine bodyPost_ret (v := lnV .bad (.slice none 0 0)) (by simp [results, Tryz.results29, go_sem, x0, x1, x2, x3, x4, x5, lnV, LN.call, LN.bad]) rfl ?_
      refine ⟨_, rfl, World.ownsRow_nil _ _ _ _, ?_⟩
      repeat' (first | with_reducible refine Below.setCell ?_ ?_ _ | with_reducible refine Below.alloc ?_ ?_ _ | with_reducible refine Below.drew ?_ | with_reducible assumption | with_reducible exact Below.refl _ _ | (simp; done) | (simp; omega) | omega)
    case true =>
      have hk2 : k = 2 := by rw [← HLN.out]; exact HQ.out rfl
      have own := HV1.out rfl
      rw [hk2] at own
      obtain ⟨gv, cap, rfl, hcv⟩ := own_one own (by omega)
      obtain ⟨i, j, hi0, hj0, hi, hj⟩ := HXY.out rfl
      have hv0 : w1.cell? ⟨gv, 0, none⟩ = some (.int .i64 i) := by
        rw [hcv 0 (by omega), ← hi0]
        unfold i64G numsOf nAt sAt
        rw [List.getElem?_map, List.getElem?_map, List.getElem?_eq_getElem (by have := HLN.out; omega)]
        rfl
      have hv1 : w1.cell? ⟨gv, 1, none⟩ = some (.int .i64 j) := by
        rw [hcv 1 (by omega), ← hj0]
        unfold i64G numsOf nAt sAt
        rw [List.getElem?_map, List.getElem?_map, List.getElem?_eq_getElem (by have := HLN.out; omega)]
        rfl
      have HL : Hid (T = .call 1 s ⟨(lettersL i j).toArray⟩ 0) := by show _ = _; rw [HM.out, if_pos rfl, hi0, hj0]; simp
      clear HV1 HV2 HM own hcv hi0 hj0 HXY HQ HLN hk2
      have HCA : Hid (∀ V, Below w.heap.size w V → V.cell? ⟨g, off, none⟩ = some (.string s)) := fun V hV => (hV.cell hgl).trans H0.out
      go_wp2_with fail
      go_region_law (first
        | (go_simp; go_at_call 41; refine (alphabet_any i j hi hj _).mono ?_; rintro e w2 ⟨rfl, hb2⟩; have hB2 : Below w.heap.size w w2 := hB1.drew.trans (hb2.mono hB1.size); have c2 := HCA.out w2 hB2; have hblk2 := (hb2.block w.heap.size (by simp; omega)).trans hblk; have hw2 := Nat.le_trans hw1 hb2.size; clear hb2)
        | (go_simp; go_at_call 39; refine (writeLine_any _ _ _).mono ?_; rintro e w3 ⟨rfl, hb3⟩; obtain ⟨⟨x0, x1, x2, x3, x4, x5⟩, f0, f1, f2, f3, f4, f5⟩ := six_of ((hb3.block w.heap.size (by omega)).trans hblk2); have hB3 : Below w.heap.size w w3 := hB2.trans (hb3.mono hB2.size); clear hb3))
      all_goals
        go_wp2
        rw [HL.out]
        refine bodyPost_ret (v := lnV (.call 1 s ⟨(lettersL i j).toArray⟩ 0) (.slice none 0 0)) (by simp [results, Tryz.results29, go_sem, x0, x1, x2, x3, x4, x5, lnV, LN.call, LN.bad]) rfl ?_
        refine ⟨_, rfl, World.ownsRow_nil _ _ _ _, ?_⟩
        repeat' (first | with_reducible refine Below.setCell ?_ ?_ _ | with_reducible refine Below.alloc ?_ ?_ _ | with_reducible refine Below.drew ?_ | with_reducible assumption | with_reducible exact Below.refl _ _ | (simp; done) | (simp; omega) | omega)
end Go.Proofs.YtfgfdjcgfbodfaaGreatDoor
