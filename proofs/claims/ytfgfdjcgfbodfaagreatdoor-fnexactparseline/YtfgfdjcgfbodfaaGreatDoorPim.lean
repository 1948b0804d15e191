/-
  The program's lines of numbers.
-/
import Derived.Test.YtfgfdjcgfbodfaaGreatDoorPpl
namespace Go.Proofs.YtfgfdjcgfbodfaaGreatDoor
open Go.RowKit
set_option linter.unusedSimpArgs false
set_option linter.unusedVariables false

theorem numbersLine_bad (k : Int) (v : Value) (w : World) (hv : ∃ a n c, v = .slice a n c) :
    Calls Tryz.prog 45 #[.int .i64 k, v, .bool false] w fun e w' => LAns w w' e .bad := by
  obtain ⟨a, n, c, rfl⟩ := hv
  go_enter Tryz.func45, Tryz.ntmps45
  go_wp2
  refine bodyPost_ret (v := lnV .bad (.slice none 0 0)) (by simp [results, Tryz.results45, go_sem, lnV, LN.bad]) rfl ?_
  refine ⟨_, rfl, World.ownsRow_nil _ _ _ _, ?_⟩
  repeat' (first | with_reducible refine Below.setCell ?_ ?_ _ | with_reducible refine Below.alloc ?_ ?_ _ | with_reducible refine Below.drew ?_ | with_reducible assumption | with_reducible exact Below.refl _ _ | (simp; done) | (simp; omega) | omega)
theorem numbersLine_ok (k : Int) (a : Option Addr) (n c : Nat) (w : World) :
    Calls Tryz.prog 45 #[.int .i64 k, .slice a n c, .bool true] w fun e w' => e = .returned (.agg #[.int .i64 k, .int .i64 0, .string ⟨#[]⟩, .string ⟨#[]⟩, .int .i64 0, .slice a n c]) ∧ Below w.heap.size w w' := by
  go_enter Tryz.func45, Tryz.ntmps45
  go_wp2
  refine bodyPost_ret (v := .agg #[.int .i64 k, .int .i64 0, .string ⟨#[]⟩, .string ⟨#[]⟩, .int .i64 0, .slice a n c]) (by simp [results, Tryz.results45, go_sem]) rfl ?_
  refine ⟨rfl, ?_⟩
  repeat' (first | with_reducible refine Below.setCell ?_ ?_ _ | with_reducible refine Below.alloc ?_ ?_ _ | with_reducible refine Below.drew ?_ | with_reducible assumption | with_reducible exact Below.refl _ _ | (simp; done) | (simp; omega) | omega)
set_option maxHeartbeats 4000000 in
set_option maxRecDepth 100000 in
theorem parseCrash_any (a : Option Addr) (n c : Nat) (ss : List ByteArray) (w : World) (ha : SRow w a n ss) (hz : ∀ i, i < n → (sAt ss i).size ≤ 1048576) (hn : n ≤ 1048576) :
    Calls Tryz.prog 35 #[.slice a n c] w fun e w' => LAns w w' e (if leadOk [] ss then .num 4 (numsOf ss) else .bad) := by
  obtain ⟨W0, hW0, HS⟩ := line_world w
  have HN := Lib.hid (leading_any a none n c 0 0 ss [] W0 (ha.below HS.out.1) hz hn ⟨rfl, .inl rfl⟩ (by omega))
  have HNL : Hid ((numsOf ss).length = n) := by show _ = _; rw [numsOf, List.length_map, ha.1]
  clear ha hz
  generalize leadOk [] ss = q at *
  go_enter Tryz.func35, Tryz.ntmps35
  go_wp2_with fail
  refine HN.out.mono ?_
  rintro e w1 ⟨v, rfl, hv1, hv2, hb1⟩
  have hB1 := HS.out.1.trans (hb1.mono HS.out.1.size)
  have hblk := (hb1.block w.heap.size (by rw [HS.out.2.2]; omega)).trans HS.out.2.1
  have hw1 : w.heap.size + 1 ≤ w1.heap.size := by have := hb1.size; rw [HS.out.2.2] at this; exact this
  have HV1 := Lib.hid hv1
  have HV2 := Lib.hid hv2
  clear hb1 hv1 hv2 HN hW0
  cases q
  case false =>
    obtain rfl := HV2.out rfl
    clear HV1 HV2
    go_wp2_with fail
    refine (numbersLine_bad _ _ _ ⟨_, _, _, rfl⟩).mono ?_
    rintro e w2 ⟨v2, rfl, own2, hb2⟩
    obtain ⟨a2, c2, rfl⟩ := own_slice own2
    obtain ⟨⟨x0, x1, x2, x3, x4, x5⟩, f0, f1, f2, f3, f4, f5⟩ := six_of ((hb2.block w.heap.size (by omega)).trans hblk)
    have hB2 := hB1.trans (hb2.mono hB1.size)
    clear hb2 hblk
    unfold lnV
    go_wp2
    refine bodyPost_ret (v := lnV .bad (.slice a2 LN.bad.ns.length c2)) (by simp [results, Tryz.results35, go_sem, x0, x1, x2, x3, x4, x5, lnV, LN.bad]) rfl ?_
    refine ⟨_, rfl, own_mono (B := w1.heap.size) ?_ (by omega), ?_⟩
    · repeat' (first | with_reducible refine own_set ?_ _ ?_ | with_reducible refine own_alloc ?_ _ | with_reducible assumption | (simp; done) | (simp; omega) | omega)
    · repeat' (first | with_reducible refine Below.setCell ?_ ?_ _ | with_reducible refine Below.alloc ?_ ?_ _ | with_reducible refine Below.drew ?_ | with_reducible assumption | with_reducible exact Below.refl _ _ | (simp; done) | (simp; omega) | omega)
  case true =>
    have own := HV1.out rfl
    obtain ⟨a2, c2, rfl⟩ := own_slice own
    have HON := Lib.hid own
    clear HV1 HV2 own
    go_wp2_with fail
    refine (numbersLine_ok _ _ _ _ _).mono ?_
    rintro e w2 ⟨rfl, hb2⟩
    obtain ⟨⟨x0, x1, x2, x3, x4, x5⟩, f0, f1, f2, f3, f4, f5⟩ := six_of ((hb2.block w.heap.size (by omega)).trans hblk)
    have hB2 := hB1.trans (hb2.mono hB1.size)
    have own2 : w2.ownsRow W0.heap.size 2 1 (.slice a2 n c2) n (i64G (numsOf ss)) := owns_below64 HON.out hb2
    have HO2 := Lib.hid own2
    clear hb2 hblk own2
    go_wp2
    refine bodyPost_ret (v := lnV (.num 4 (numsOf ss)) (.slice a2 n c2)) (by simp [results, Tryz.results35, go_sem, x0, x1, x2, x3, x4, x5, lnV, LN.num]) rfl ?_
    have own2 := HO2.out
    have hs0 := HS.out.2.2
    refine ⟨_, rfl, own_mono (B := W0.heap.size) ?_ (by omega), ?_⟩
    · rw [show (LN.num 4 (numsOf ss)).ns = numsOf ss from rfl, HNL.out]
      repeat' (first | with_reducible refine own_set ?_ _ ?_ | with_reducible refine own_alloc ?_ _ | with_reducible assumption | (simp; done) | (simp; omega) | omega)
    · repeat' (first | with_reducible refine Below.setCell ?_ ?_ _ | with_reducible refine Below.alloc ?_ ?_ _ | with_reducible refine Below.drew ?_ | with_reducible assumption | with_reducible exact Below.refl _ _ | (simp; done) | (simp; omega) | omega)
end Go.Proofs.YtfgfdjcgfbodfaaGreatDoor
