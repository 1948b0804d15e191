/-
  The specification's calls of three and more fields.
-/
import Derived.Test.YtfgfdjcgfbodfaaGreatDoorPcl
namespace Go.Proofs.YtfgfdjcgfbodfaaGreatDoor
open Go.RowKit
set_option linter.unusedSimpArgs false
set_option linter.unusedVariables false

theorem srow_one {W : World} {g off : Nat} {b : ByteArray} (h : W.cell? ⟨g, off, none⟩ = some (.string b)) : SRow W (some ⟨g, off, none⟩) 1 [b] :=
  ⟨rfl, .inr ⟨g, off, rfl, fun i hi => by
    obtain rfl : i = 0 := by omega
    rw [Nat.add_zero]
    exact h⟩⟩
theorem own_one {w : World} {B : Nat} {v : Value} {n : Nat} {xs : List Value} (h : w.ownsRow B 2 1 v n xs) (hn : 0 < n) : ∃ g cap, v = .slice (some ⟨g, 0, none⟩) n cap ∧ ∀ i, i < n → w.cell? ⟨g, i, none⟩ = xs[i]? := by
  rcases h.2 with ⟨_, h0⟩ | ⟨g, cap, cur, rfl, _⟩
  · omega
  · exact ⟨g, cap, rfl, fun i hi => h.cellAt i (by omega)⟩
theorem line_world (w : World) : ∃ W0, w.alloc (.cells #[.int .i64 0, .int .i64 0, .string ⟨#[]⟩, .string ⟨#[]⟩, .int .i64 0, .slice none 0 0] 27) = W0 ∧ Hid (Below w.heap.size w W0 ∧ W0.heap[w.heap.size]? = some (.cells #[.int .i64 0, .int .i64 0, .string ⟨#[]⟩, .string ⟨#[]⟩, .int .i64 0, .slice none 0 0] 27 (0, 0)) ∧ W0.heap.size = w.heap.size + 1) :=
  ⟨_, rfl, (Below.refl _ _).alloc (Nat.le_refl _) _, heap_alloc_new w _, by simp⟩
set_option maxHeartbeats 4000000 in
set_option maxRecDepth 100000 in
theorem callLine_3 (g c : Nat) (s a b : ByteArray) (w : World) (h0 : w.cell? ⟨g, 0, none⟩ = some (.string s)) (h1 : w.cell? ⟨g, 1, none⟩ = some (.string a)) (h2 : w.cell? ⟨g, 2, none⟩ = some (.string b)) (hc : 3 ≤ c) (hcm : c ≤ 9223372036854775807) (hb : b.size ≤ 1048576) :
    Calls Tryz.prog 13 #[.slice (some ⟨g, 0, none⟩) 3 c] w fun e w' => LAns w w' e (call3 s a b) := by
  have hg := World.block_lt_of_cell? w _ h0
  obtain ⟨b1, e1⟩ : ∃ b, (s.toList == [119, 114, 105, 116, 101]) = b := ⟨_, rfl⟩
  obtain ⟨b2, e2⟩ : ∃ b, (s.toList == [116, 114, 117, 110, 99]) = b := ⟨_, rfl⟩
  obtain ⟨b3, e3⟩ : ∃ b3, (b.toList == [45]) = b3 := ⟨_, rfl⟩
  have HC : Hid (call3 s a b = if b1 = true then .call 1 a (if b3 = true then ⟨#[]⟩ else b) 0 else if isNum b.data.toList && b2 then .call 3 a ⟨#[]⟩ (numV b.data.toList) else .bad) := by show _ = _; unfold call3 weq dash weq; rw [e1, e2, e3]
  generalize call3 s a b = C at *
  cases b1
  case true =>
    cases b3
    case true =>
      have HL : Hid (C = .call 1 a ⟨#[]⟩ 0) := HC.out
      clear HC e2
      go_enter Tryz.func13, Tryz.ntmps13
      go_wp2_with fail
      refine (make_any _ _ _ _ _).mono ?_
      rintro e w1 ⟨rfl, hb1⟩
      obtain ⟨⟨x0, x1, x2, x3, x4, x5⟩, f0, f1, f2, f3, f4, f5⟩ := six_of ((hb1.block w.heap.size (by simp)).trans (heap_alloc_new w _))
      have hB : Below w.heap.size w w1 := ((Below.refl _ _).alloc (Nat.le_refl _) _).trans (hb1.mono (by simp))
      clear hb1
      go_wp2
      rw [HL.out]
      refine bodyPost_ret (v := lnV (.call 1 a ⟨#[]⟩ 0) (.slice none 0 0)) (by simp [results, Tryz.results13, go_sem, x0, x1, x2, x3, x4, x5, lnV, LN.call, LN.bad]) rfl ?_
      refine ⟨_, rfl, World.ownsRow_nil _ _ _ _, ?_⟩
      repeat' (first | with_reducible refine Below.setCell ?_ ?_ _ | with_reducible refine Below.alloc ?_ ?_ _ | with_reducible refine Below.drew ?_ | with_reducible assumption | with_reducible exact Below.refl _ _ | (simp; done) | (simp; omega) | omega)
    case false =>
      have HL : Hid (C = .call 1 a b 0) := HC.out
      clear HC e2
      go_enter Tryz.func13, Tryz.ntmps13
      go_wp2_with fail
      refine (make_any _ _ _ _ _).mono ?_
      rintro e w1 ⟨rfl, hb1⟩
      obtain ⟨⟨x0, x1, x2, x3, x4, x5⟩, f0, f1, f2, f3, f4, f5⟩ := six_of ((hb1.block w.heap.size (by simp)).trans (heap_alloc_new w _))
      have hB : Below w.heap.size w w1 := ((Below.refl _ _).alloc (Nat.le_refl _) _).trans (hb1.mono (by simp))
      clear hb1
      go_wp2
      rw [HL.out]
      refine bodyPost_ret (v := lnV (.call 1 a b 0) (.slice none 0 0)) (by simp [results, Tryz.results13, go_sem, x0, x1, x2, x3, x4, x5, lnV, LN.call, LN.bad]) rfl ?_
      refine ⟨_, rfl, World.ownsRow_nil _ _ _ _, ?_⟩
      repeat' (first | with_reducible refine Below.setCell ?_ ?_ _ | with_reducible refine Below.alloc ?_ ?_ _ | with_reducible refine Below.drew ?_ | with_reducible assumption | with_reducible exact Below.refl _ _ | (simp; done) | (simp; omega) | omega)
  clear e3
  obtain ⟨W0, hW0, HS⟩ := line_world w
  have d0 : W0.cell? ⟨g, 0, none⟩ = some (.string s) := (HS.out.1.cell (World.block_lt_of_cell? w _ h0)).trans h0
  have d1 : W0.cell? ⟨g, 1, none⟩ = some (.string a) := (HS.out.1.cell (World.block_lt_of_cell? w _ h1)).trans h1
  have d2 : W0.cell? ⟨g, 2, none⟩ = some (.string b) := (HS.out.1.cell (World.block_lt_of_cell? w _ h2)).trans h2
  have HN : Hid (Calls Tryz.prog 14 #[.slice (some ⟨g, 2, none⟩) 1 (c - 2)] W0 fun e w' => ∃ v, e = .returned (.tuple #[v, .bool (isNum b.data.toList)]) ∧ (isNum b.data.toList = true → w'.ownsRow W0.heap.size 2 1 v 1 (i64G [numV b.data.toList])) ∧ Below W0.heap.size W0 w') := by
    have h := nums_spec (some ⟨g, 2, none⟩) 1 (c - 2) [b] W0 (srow_one d2) (fun i hi => by
      obtain rfl : i = 0 := by omega
      exact hb) (by omega)
    have e : numsFlag [b] = isNum b.data.toList := by simp [numsFlag, allNum]
    rw [e] at h
    exact h
  have HIN : Hid (C = if isNum b.data.toList && b2 then .call 3 a ⟨#[]⟩ (numV b.data.toList) else .bad) := HC.out
  clear HC
  generalize isNum b.data.toList = q at *
  generalize numV b.data.toList = x at *
  go_enter Tryz.func13, Tryz.ntmps13
  go_wp2_with fail
  refine HN.out.mono ?_
  rintro e w1 ⟨v, rfl, hv, hb1⟩
  have hB1 := HS.out.1.trans (hb1.mono HS.out.1.size)
  have hblk := (hb1.block w.heap.size (by rw [HS.out.2.2]; omega)).trans HS.out.2.1
  have hw1 : w.heap.size + 1 ≤ w1.heap.size := by have := hb1.size; rw [HS.out.2.2] at this; exact this
  have HV := Lib.hid hv
  have c0 : w1.cell? ⟨g, 0, none⟩ = some (.string s) := (hB1.cell (World.block_lt_of_cell? w _ h0)).trans h0
  have c1 : w1.cell? ⟨g, 1, none⟩ = some (.string a) := (hB1.cell (World.block_lt_of_cell? w _ h1)).trans h1
  clear hb1 hv HN hW0 h0 h1 h2 d0 d1 d2
  cases q
  case false =>
    obtain ⟨⟨x0, x1, x2, x3, x4, x5⟩, f0, f1, f2, f3, f4, f5⟩ := six_of hblk
    have HL : Hid (C = .bad) := HIN.out
    clear hblk HIN HV
    go_wp2
    rw [HL.out]
    refine bodyPost_ret (v := lnV .bad (.slice none 0 0)) (by simp [results, Tryz.results13, go_sem, x0, x1, x2, x3, x4, x5, lnV, LN.call, LN.bad]) rfl ?_
    refine ⟨_, rfl, World.ownsRow_nil _ _ _ _, ?_⟩
    repeat' (first | with_reducible refine Below.setCell ?_ ?_ _ | with_reducible refine Below.alloc ?_ ?_ _ | with_reducible refine Below.drew ?_ | with_reducible assumption | with_reducible exact Below.refl _ _ | (simp; done) | (simp; omega) | omega)
  case true =>
    obtain ⟨gv, cap, rfl, hcv⟩ := own_one (HV.out rfl) (by omega)
    have hv0 : w1.cell? ⟨gv, 0, none⟩ = some (.int .i64 x) := hcv 0 (by omega)
    clear hcv HV
    cases b2
    case false =>
      obtain ⟨⟨x0, x1, x2, x3, x4, x5⟩, f0, f1, f2, f3, f4, f5⟩ := six_of hblk
      have HL : Hid (C = .bad) := HIN.out
      clear hblk HIN
      go_wp2
      rw [HL.out]
      refine bodyPost_ret (v := lnV .bad (.slice none 0 0)) (by simp [results, Tryz.results13, go_sem, x0, x1, x2, x3, x4, x5, lnV, LN.call, LN.bad]) rfl ?_
      refine ⟨_, rfl, World.ownsRow_nil _ _ _ _, ?_⟩
      repeat' (first | with_reducible refine Below.setCell ?_ ?_ _ | with_reducible refine Below.alloc ?_ ?_ _ | with_reducible refine Below.drew ?_ | with_reducible assumption | with_reducible exact Below.refl _ _ | (simp; done) | (simp; omega) | omega)
    case true =>
      have HL : Hid (C = .call 3 a ⟨#[]⟩ x) := HIN.out
      clear HIN
      go_wp2_with fail
      go_region_law (first
        | (go_simp; go_at_call 23; refine (make_any _ _ _ _ _).mono ?_; rintro e w2 ⟨rfl, hb2⟩; obtain ⟨⟨x0, x1, x2, x3, x4, x5⟩, f0, f1, f2, f3, f4, f5⟩ := six_of ((hb2.block w.heap.size (by simp; omega)).trans hblk); have hB2 : Below w.heap.size w w2 := hB1.drew.trans (hb2.mono hB1.size); clear hb2))
      all_goals
        go_wp2
        rw [HL.out]
        refine bodyPost_ret (v := lnV (.call 3 a ⟨#[]⟩ x) (.slice none 0 0)) (by simp [results, Tryz.results13, go_sem, x0, x1, x2, x3, x4, x5, lnV, LN.call, LN.bad]) rfl ?_
        refine ⟨_, rfl, World.ownsRow_nil _ _ _ _, ?_⟩
        repeat' (first | with_reducible refine Below.setCell ?_ ?_ _ | with_reducible refine Below.alloc ?_ ?_ _ | with_reducible refine Below.drew ?_ | with_reducible assumption | with_reducible exact Below.refl _ _ | (simp; done) | (simp; omega) | omega)
end Go.Proofs.YtfgfdjcgfbodfaaGreatDoor
