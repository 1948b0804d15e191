/-
  The program's lines of bounded numbers.
-/
import Derived.Test.YtfgfdjcgfbodfaaGreatDoorPim
namespace Go.Proofs.YtfgfdjcgfbodfaaGreatDoor
open Go.RowKit
set_option linter.unusedSimpArgs false
set_option linter.unusedVariables false

set_option maxHeartbeats 4000000 in
set_option maxRecDepth 100000 in
theorem parseArm_any (a : Option Addr) (n c : Nat) (ss : List ByteArray) (w : World) (ha : SRow w a n ss) (hz : ∀ i, i < n → (sAt ss i).size ≤ 1048576) (hn : n ≤ 1048576) :
    Calls Tryz.prog 34 #[.slice a n c] w fun e w' => LAns w w' e (if leadOk [(1, 100000)] ss then .num 3 (numsOf ss) else .bad) := by
  obtain ⟨W0, hW0, HS⟩ := line_world w
  obtain ⟨W1, hW1⟩ : ∃ W1, W0.alloc (.cells #[.int .i64 1, .int .i64 100000] 64) = W1 := ⟨_, rfl⟩
  have hb0 : Below W0.heap.size W0 W1 := by rw [← hW1]; exact (Below.refl _ _).alloc (Nat.le_refl _) _
  have hg1 : W1.heap[W0.heap.size]? = some (.cells #[.int .i64 1, .int .i64 100000] 64 (0, 0)) := by rw [← hW1]; exact heap_alloc_new W0 _
  have hbr : BRow W1 (some ⟨W0.heap.size, 0, none⟩) 1 [(1, 100000)] := ⟨rfl, .inr ⟨_, rfl, fun i hi => by
    match i, hi with
    | 0, _ => exact ⟨by rw [World.cell?, hg1]; rfl, by rw [World.cell?, hg1]; rfl⟩
    ⟩⟩
  have HN := Lib.hid (leading_any a (some ⟨W0.heap.size, 0, none⟩) n c 1 1 ss [(1, 100000)] W1 (ha.below (HS.out.1.trans (hb0.mono HS.out.1.size))) hz hn hbr (by omega))
  have HB1 : Hid (Below w.heap.size w W1) := HS.out.1.trans (hb0.mono HS.out.1.size)
  have HBK : Hid (W1.heap[w.heap.size]? = some (.cells #[.int .i64 0, .int .i64 0, .string ⟨#[]⟩, .string ⟨#[]⟩, .int .i64 0, .slice none 0 0] 27 (0, 0)) ∧ w.heap.size + 1 ≤ W1.heap.size) := ⟨(hb0.block _ (by rw [HS.out.2.2]; omega)).trans HS.out.2.1, by have := hb0.size; rw [HS.out.2.2] at this; exact this⟩
  clear hb0 hg1 hbr
  have HNL : Hid ((numsOf ss).length = n) := by show _ = _; rw [numsOf, List.length_map, ha.1]
  clear ha hz
  generalize leadOk [(1, 100000)] ss = q at *
  go_enter Tryz.func34, Tryz.ntmps34
  go_wp2_with fail
  refine HN.out.mono ?_
  rintro e w1 ⟨v, rfl, hv1, hv2, hb1⟩
  have hB1 := HB1.out.trans (hb1.mono HB1.out.size)
  have hblk := (hb1.block w.heap.size (by have := HBK.out.2; omega)).trans HBK.out.1
  have hw1 : w.heap.size + 1 ≤ w1.heap.size := Nat.le_trans HBK.out.2 hb1.size
  have HV1 := Lib.hid hv1
  have HV2 := Lib.hid hv2
  clear hb1 hv1 hv2 HN hW0 hW1
  cases q
  case false =>
    obtain rfl := HV2.out rfl
    clear HV1 HV2
    go_wp2_with fail
    refine (numbersLine_bad _ _ _ ⟨_, _, _, rfl⟩).mono ?_
    rintro e w2 ⟨v2, rfl, own2, hb2⟩
    obtain ⟨a2, c2, rfl⟩ := own_slice own2
    obtain ⟨⟨x0, x1, x2, x3, x4, x5⟩, f0, f1, f2, f3, f4, f5⟩ := six_of ((hb2.block w.heap.size (by omega)).trans hblk)
    have hB2 := hB1.trans (hb2.mono hB1.size)
    clear hb2 hblk
    unfold lnV
    go_wp2
    refine bodyPost_ret (v := lnV .bad (.slice a2 LN.bad.ns.length c2)) (by simp [results, Tryz.results34, go_sem, x0, x1, x2, x3, x4, x5, lnV, LN.bad]) rfl ?_
    refine ⟨_, rfl, own_mono (B := w1.heap.size) ?_ (by omega), ?_⟩
    · repeat' (first | with_reducible refine own_set ?_ _ ?_ | with_reducible refine own_alloc ?_ _ | with_reducible assumption | (simp; done) | (simp; omega) | omega)
    · repeat' (first | with_reducible refine Below.setCell ?_ ?_ _ | with_reducible refine Below.alloc ?_ ?_ _ | with_reducible refine Below.drew ?_ | with_reducible assumption | with_reducible exact Below.refl _ _ | (simp; done) | (simp; omega) | omega)
  case true =>
    have own := HV1.out rfl
    obtain ⟨a2, c2, rfl⟩ := own_slice own
    have HON := Lib.hid own
    clear HV1 HV2 own
    go_wp2_with fail
    refine (numbersLine_ok _ _ _ _ _).mono ?_
    rintro e w2 ⟨rfl, hb2⟩
    obtain ⟨⟨x0, x1, x2, x3, x4, x5⟩, f0, f1, f2, f3, f4, f5⟩ := six_of ((hb2.block w.heap.size (by omega)).trans hblk)
    have hB2 := hB1.trans (hb2.mono hB1.size)
    have own2 : w2.ownsRow W1.heap.size 2 1 (.slice a2 n c2) n (i64G (numsOf ss)) := owns_below64 HON.out hb2
    have HO2 := Lib.hid own2
    clear hb2 hblk own2
    go_wp2
    refine bodyPost_ret (v := lnV (.num 3 (numsOf ss)) (.slice a2 n c2)) (by simp [results, Tryz.results34, go_sem, x0, x1, x2, x3, x4, x5, lnV, LN.num]) rfl ?_
    have own2 := HO2.out
    have hs1 := HBK.out.2
    refine ⟨_, rfl, own_mono (B := W1.heap.size) ?_ (by omega), ?_⟩
    · rw [show (LN.num 3 (numsOf ss)).ns = numsOf ss from rfl, HNL.out]
      repeat' (first | with_reducible refine own_set ?_ _ ?_ | with_reducible refine own_alloc ?_ _ | with_reducible assumption | (simp; done) | (simp; omega) | omega)
    · repeat' (first | with_reducible refine Below.setCell ?_ ?_ _ | with_reducible refine Below.alloc ?_ ?_ _ | with_reducible refine Below.drew ?_ | with_reducible assumption | with_reducible exact Below.refl _ _ | (simp; done) | (simp; omega) | omega)
set_option maxHeartbeats 4000000 in
set_option maxRecDepth 100000 in
theorem parseFlip_any (a : Option Addr) (n c : Nat) (ss : List ByteArray) (w : World) (ha : SRow w a n ss) (hz : ∀ i, i < n → (sAt ss i).size ≤ 1048576) (hn : n ≤ 1048576) :
    Calls Tryz.prog 36 #[.slice a n c] w fun e w' => LAns w w' e (if onlyOk [(0, 99999), (1, 255)] ss then .num 5 (numsOf ss) else .bad) := by
  obtain ⟨W0, hW0, HS⟩ := line_world w
  obtain ⟨W1, hW1⟩ : ∃ W1, W0.alloc (.cells #[.int .i64 0, .int .i64 99999, .int .i64 1, .int .i64 255] 64) = W1 := ⟨_, rfl⟩
  have hb0 : Below W0.heap.size W0 W1 := by rw [← hW1]; exact (Below.refl _ _).alloc (Nat.le_refl _) _
  have hg1 : W1.heap[W0.heap.size]? = some (.cells #[.int .i64 0, .int .i64 99999, .int .i64 1, .int .i64 255] 64 (0, 0)) := by rw [← hW1]; exact heap_alloc_new W0 _
  have hbr : BRow W1 (some ⟨W0.heap.size, 0, none⟩) 2 [(0, 99999), (1, 255)] := ⟨rfl, .inr ⟨_, rfl, fun i hi => by
    match i, hi with
    | 0, _ => exact ⟨by rw [World.cell?, hg1]; rfl, by rw [World.cell?, hg1]; rfl⟩
    | 1, _ => exact ⟨by rw [World.cell?, hg1]; rfl, by rw [World.cell?, hg1]; rfl⟩
    ⟩⟩
  have HN := Lib.hid (only_any a (some ⟨W0.heap.size, 0, none⟩) n c 2 2 ss [(0, 99999), (1, 255)] W1 (ha.below (HS.out.1.trans (hb0.mono HS.out.1.size))) hz hn hbr (by omega))
  have HB1 : Hid (Below w.heap.size w W1) := HS.out.1.trans (hb0.mono HS.out.1.size)
  have HBK : Hid (W1.heap[w.heap.size]? = some (.cells #[.int .i64 0, .int .i64 0, .string ⟨#[]⟩, .string ⟨#[]⟩, .int .i64 0, .slice none 0 0] 27 (0, 0)) ∧ w.heap.size + 1 ≤ W1.heap.size) := ⟨(hb0.block _ (by rw [HS.out.2.2]; omega)).trans HS.out.2.1, by have := hb0.size; rw [HS.out.2.2] at this; exact this⟩
  clear hb0 hg1 hbr
  have HNL : Hid ((numsOf ss).length = n) := by show _ = _; rw [numsOf, List.length_map, ha.1]
  clear ha hz
  generalize onlyOk [(0, 99999), (1, 255)] ss = q at *
  go_enter Tryz.func36, Tryz.ntmps36
  go_wp2_with fail
  refine HN.out.mono ?_
  rintro e w1 ⟨v, rfl, hv1, hv2, hb1⟩
  have hB1 := HB1.out.trans (hb1.mono HB1.out.size)
  have hblk := (hb1.block w.heap.size (by have := HBK.out.2; omega)).trans HBK.out.1
  have hw1 : w.heap.size + 1 ≤ w1.heap.size := Nat.le_trans HBK.out.2 hb1.size
  have HV1 := Lib.hid hv1
  have HV2 := Lib.hid hv2
  clear hb1 hv1 hv2 HN hW0 hW1
  cases q
  case false =>
    obtain rfl := HV2.out rfl
    clear HV1 HV2
    go_wp2_with fail
    refine (numbersLine_bad _ _ _ ⟨_, _, _, rfl⟩).mono ?_
    rintro e w2 ⟨v2, rfl, own2, hb2⟩
    obtain ⟨a2, c2, rfl⟩ := own_slice own2
    obtain ⟨⟨x0, x1, x2, x3, x4, x5⟩, f0, f1, f2, f3, f4, f5⟩ := six_of ((hb2.block w.heap.size (by omega)).trans hblk)
    have hB2 := hB1.trans (hb2.mono hB1.size)
    clear hb2 hblk
    unfold lnV
    go_wp2
    refine bodyPost_ret (v := lnV .bad (.slice a2 LN.bad.ns.length c2)) (by simp [results, Tryz.results36, go_sem, x0, x1, x2, x3, x4, x5, lnV, LN.bad]) rfl ?_
    refine ⟨_, rfl, own_mono (B := w1.heap.size) ?_ (by omega), ?_⟩
    · repeat' (first | with_reducible refine own_set ?_ _ ?_ | with_reducible refine own_alloc ?_ _ | with_reducible assumption | (simp; done) | (simp; omega) | omega)
    · repeat' (first | with_reducible refine Below.setCell ?_ ?_ _ | with_reducible refine Below.alloc ?_ ?_ _ | with_reducible refine Below.drew ?_ | with_reducible assumption | with_reducible exact Below.refl _ _ | (simp; done) | (simp; omega) | omega)
  case true =>
    have own := HV1.out rfl
    obtain ⟨a2, c2, rfl⟩ := own_slice own
    have HON := Lib.hid own
    clear HV1 HV2 own
    go_wp2_with fail
    refine (numbersLine_ok _ _ _ _ _).mono ?_
    rintro e w2 ⟨rfl, hb2⟩
    obtain ⟨⟨x0, x1, x2, x3, x4, x5⟩, f0, f1, f2, f3, f4, f5⟩ := six_of ((hb2.block w.heap.size (by omega)).trans hblk)
    have hB2 := hB1.trans (hb2.mono hB1.size)
    have own2 : w2.ownsRow W1.heap.size 2 1 (.slice a2 n c2) n (i64G (numsOf ss)) := owns_below64 HON.out hb2
    have HO2 := Lib.hid own2
    clear hb2 hblk own2
    go_wp2
    refine bodyPost_ret (v := lnV (.num 5 (numsOf ss)) (.slice a2 n c2)) (by simp [results, Tryz.results36, go_sem, x0, x1, x2, x3, x4, x5, lnV, LN.num]) rfl ?_
    have own2 := HO2.out
    have hs1 := HBK.out.2
    refine ⟨_, rfl, own_mono (B := W1.heap.size) ?_ (by omega), ?_⟩
    · rw [show (LN.num 5 (numsOf ss)).ns = numsOf ss from rfl, HNL.out]
      repeat' (first | with_reducible refine own_set ?_ _ ?_ | with_reducible refine own_alloc ?_ _ | with_reducible assumption | (simp; done) | (simp; omega) | omega)
    · repeat' (first | with_reducible refine Below.setCell ?_ ?_ _ | with_reducible refine Below.alloc ?_ ?_ _ | with_reducible refine Below.drew ?_ | with_reducible assumption | with_reducible exact Below.refl _ _ | (simp; done) | (simp; omega) | omega)
end Go.Proofs.YtfgfdjcgfbodfaaGreatDoor
