/-
  The specification's calls of four and more fields.
-/
import Derived.Test.YtfgfdjcgfbodfaaGreatDoorPcm
import Derived.Deep.QuietTactic
import Derived.BigQuiet
import Derived.BigRegion
namespace Go.Proofs.YtfgfdjcgfbodfaaGreatDoor
open Go.RowKit
set_option linter.unusedSimpArgs false
set_option linter.unusedVariables false

theorem srow_two {W : World} {g off : Nat} {b c : ByteArray} (h : W.cell? ⟨g, off, none⟩ = some (.string b)) (h' : W.cell? ⟨g, off + 1, none⟩ = some (.string c)) : SRow W (some ⟨g, off, none⟩) 2 [b, c] :=
  ⟨rfl, .inr ⟨g, off, rfl, fun i hi => by
    match i, hi with
    | 0, _ => exact h
    | 1, _ => exact h'⟩⟩
theorem between_t (v lo hi : Int) (t : Bool) (h : inB v lo hi = t) (w : World) :
    Calls Tryz.prog 15 #[.int .i64 v, .int .i64 lo, .int .i64 hi] w fun e w' => e = .returned (.bool t) ∧ w' = w := by
  rw [← h]
  exact between_any v lo hi w
set_option maxHeartbeats 4000000 in
set_option maxRecDepth 100000 in
theorem callLine_4 (g c : Nat) (s a b d : ByteArray) (w : World) (h0 : w.cell? ⟨g, 0, none⟩ = some (.string s)) (h1 : w.cell? ⟨g, 1, none⟩ = some (.string a)) (h2 : w.cell? ⟨g, 2, none⟩ = some (.string b)) (h3 : w.cell? ⟨g, 3, none⟩ = some (.string d)) (hc : 4 ≤ c) (hcm : c ≤ 9223372036854775807) (hb : b.size ≤ 1048576) (hd : d.size ≤ 1048576) :
    Calls Tryz.prog 13 #[.slice (some ⟨g, 0, none⟩) 4 c] w fun e w' => LAns w w' e (call4 s a b d) := by
  have hg := World.block_lt_of_cell? w _ h0
  obtain ⟨b2, e2⟩ : ∃ b, (s.toList == [102, 105, 108, 108]) = b := ⟨_, rfl⟩
  obtain ⟨x, hx⟩ : ∃ x, numV b.data.toList = x := ⟨_, rfl⟩
  obtain ⟨y, hy⟩ : ∃ y, numV d.data.toList = y := ⟨_, rfl⟩
  obtain ⟨t1, ht1⟩ : ∃ t, inB x 0 2000 = t := ⟨_, rfl⟩
  obtain ⟨t2, ht2⟩ : ∃ t, inB y 0 25 = t := ⟨_, rfl⟩
  obtain ⟨q, hq⟩ : ∃ q, (isNum b.data.toList && isNum d.data.toList) = q := ⟨_, rfl⟩
  have HC : Hid (call4 s a b d = if (q && (b2 && (t1 && t2))) = true then .call 1 a ⟨(lettersL x.toNat y.toNat).toArray⟩ 0 else .bad) := by
    show _ = _
    unfold call4 fillOk weq
    rw [e2, hx, hy, ht1, ht2, ← hq, Bool.and_assoc]
  generalize call4 s a b d = C at *
  obtain ⟨W0, hW0, HS⟩ := line_world w
  have d0 : W0.cell? ⟨g, 0, none⟩ = some (.string s) := (HS.out.1.cell (World.block_lt_of_cell? w _ h0)).trans h0
  have d1 : W0.cell? ⟨g, 1, none⟩ = some (.string a) := (HS.out.1.cell (World.block_lt_of_cell? w _ h1)).trans h1
  have d2 : W0.cell? ⟨g, 2, none⟩ = some (.string b) := (HS.out.1.cell (World.block_lt_of_cell? w _ h2)).trans h2
  have d3 : W0.cell? ⟨g, 3, none⟩ = some (.string d) := (HS.out.1.cell (World.block_lt_of_cell? w _ h3)).trans h3
  have HN : Hid (Calls Tryz.prog 14 #[.slice (some ⟨g, 2, none⟩) 2 (c - 2)] W0 fun e w' => ∃ v, e = .returned (.tuple #[v, .bool q]) ∧ (q = true → w'.ownsRow W0.heap.size 2 1 v 2 (i64G [x, y])) ∧ Below W0.heap.size W0 w') := by
    have h := nums_spec (some ⟨g, 2, none⟩) 2 (c - 2) [b, d] W0 (srow_two d2 d3) (fun i hi => by
      match i, hi with
      | 0, _ => exact hb
      | 1, _ => exact hd) (by omega)
    have e : numsFlag [b, d] = q := by rw [← hq]; simp [numsFlag, allNum]
    have e' : numsOf [b, d] = [x, y] := by rw [← hx, ← hy]; rfl
    rw [e, e'] at h
    exact h
  have HT1 := Lib.hid ht1
  have HT2 := Lib.hid ht2
  clear hx hy hq ht1 ht2
  go_enter Tryz.func13, Tryz.ntmps13
  go_wp2_with fail
  refine HN.out.mono ?_
  rintro e w1 ⟨v, rfl, hv, hb1⟩
  have hB1 := HS.out.1.trans (hb1.mono HS.out.1.size)
  have hblk := (hb1.block w.heap.size (by rw [HS.out.2.2]; omega)).trans HS.out.2.1
  have hw1 : w.heap.size + 1 ≤ w1.heap.size := by have := hb1.size; rw [HS.out.2.2] at this; exact this
  have HV := Lib.hid hv
  have c0 : w1.cell? ⟨g, 0, none⟩ = some (.string s) := (hB1.cell (World.block_lt_of_cell? w _ h0)).trans h0
  have c1 : w1.cell? ⟨g, 1, none⟩ = some (.string a) := (hB1.cell (World.block_lt_of_cell? w _ h1)).trans h1
  have hgg : (⟨g, 1, none⟩ : Addr).block < w.heap.size := World.block_lt_of_cell? w _ h1
  clear hb1 hv HN hW0 h0 h2 h3 d0 d1 d2 d3
  cases q
  case false =>
    obtain ⟨⟨x0, x1, x2, x3, x4, x5⟩, f0, f1, f2, f3, f4, f5⟩ := six_of hblk
    have HL : Hid (C = .bad) := HC.out
    clear hblk HC HV
    go_wp2
    rw [HL.out]
    refine bodyPost_ret (v := lnV .bad (.slice none 0 0)) (by simp [results, Tryz.results13, go_sem, x0, x1, x2, x3, x4, x5, lnV, LN.call, LN.bad]) rfl ?_
    refine ⟨_, rfl, World.ownsRow_nil _ _ _ _, ?_⟩
    repeat' (first | with_reducible refine Below.setCell ?_ ?_ _ | with_reducible refine Below.alloc ?_ ?_ _ | with_reducible refine Below.drew ?_ | with_reducible assumption | with_reducible exact Below.refl _ _ | (simp; done) | (simp; omega) | omega)
  case true =>
    obtain ⟨gv, cap, rfl, hcv⟩ := own_one (HV.out rfl) (by omega)
    have hv0 : w1.cell? ⟨gv, 0, none⟩ = some (.int .i64 x) := hcv 0 (by omega)
    have hv1 : w1.cell? ⟨gv, 1, none⟩ = some (.int .i64 y) := hcv 1 (by omega)
    clear hcv HV
    cases b2
    case false =>
      obtain ⟨⟨x0, x1, x2, x3, x4, x5⟩, f0, f1, f2, f3, f4, f5⟩ := six_of hblk
      have HL : Hid (C = .bad) := HC.out
      clear hblk HC
      go_wp2
      rw [HL.out]
      refine bodyPost_ret (v := lnV .bad (.slice none 0 0)) (by simp [results, Tryz.results13, go_sem, x0, x1, x2, x3, x4, x5, lnV, LN.call, LN.bad]) rfl ?_
      refine ⟨_, rfl, World.ownsRow_nil _ _ _ _, ?_⟩
      repeat' (first | with_reducible refine Below.setCell ?_ ?_ _ | with_reducible refine Below.alloc ?_ ?_ _ | with_reducible refine Below.drew ?_ | with_reducible assumption | with_reducible exact Below.refl _ _ | (simp; done) | (simp; omega) | omega)
    case true =>
      cases t1
      case false =>
        obtain ⟨⟨x0, x1, x2, x3, x4, x5⟩, f0, f1, f2, f3, f4, f5⟩ := six_of hblk
        have HL : Hid (C = .bad) := HC.out
        clear hblk HC
        go_wp2_with fail
        refine (between_t x 0 2000 _ HT1.out _).mono ?_
        rintro e w2 ⟨rfl, hw2⟩
        have hw2 := hw2.symm
        subst hw2
        go_wp2
        rw [HL.out]
        refine bodyPost_ret (v := lnV .bad (.slice none 0 0)) (by simp [results, Tryz.results13, go_sem, x0, x1, x2, x3, x4, x5, lnV, LN.call, LN.bad]) rfl ?_
        refine ⟨_, rfl, World.ownsRow_nil _ _ _ _, ?_⟩
        repeat' (first | with_reducible refine Below.setCell ?_ ?_ _ | with_reducible refine Below.alloc ?_ ?_ _ | with_reducible refine Below.drew ?_ | with_reducible assumption | with_reducible exact Below.refl _ _ | (simp; done) | (simp; omega) | omega)
      case true =>
        cases t2
        case false =>
          obtain ⟨⟨x0, x1, x2, x3, x4, x5⟩, f0, f1, f2, f3, f4, f5⟩ := six_of hblk
          have HL : Hid (C = .bad) := HC.out
          clear hblk HC
          go_wp2_with fail
          refine (between_t x 0 2000 _ HT1.out _).mono ?_
          rintro e w2 ⟨rfl, hw2⟩
          have hw2 := hw2.symm
          subst hw2
          go_wp2_with fail
          refine (between_t y 0 25 _ HT2.out _).mono ?_
          rintro e w2 ⟨rfl, hw2⟩
          have hw2 := hw2.symm
          subst hw2
          go_wp2
          rw [HL.out]
          refine bodyPost_ret (v := lnV .bad (.slice none 0 0)) (by simp [results, Tryz.results13, go_sem, x0, x1, x2, x3, x4, x5, lnV, LN.call, LN.bad]) rfl ?_
          refine ⟨_, rfl, World.ownsRow_nil _ _ _ _, ?_⟩
          repeat' (first | with_reducible refine Below.setCell ?_ ?_ _ | with_reducible refine Below.alloc ?_ ?_ _ | with_reducible refine Below.drew ?_ | with_reducible assumption | with_reducible exact Below.refl _ _ | (simp; done) | (simp; omega) | omega)
        case true =>
          have HL : Hid (C = .call 1 a ⟨(lettersL x.toNat y.toNat).toArray⟩ 0) := HC.out
          have HXY : Hid (∃ (i j : Nat), x = i ∧ y = j ∧ i ≤ 2000 ∧ j ≤ 25) := by
            have h1 := HT1.out
            have h2 := HT2.out
            simp [inB] at h1 h2
            exact ⟨x.toNat, y.toNat, by omega, by omega, by omega, by omega⟩
          clear HC
          go_wp2_with fail
          refine (between_t x 0 2000 _ HT1.out _).mono ?_
          rintro e w2 ⟨rfl, hw2⟩
          have hw2 := hw2.symm
          subst hw2
          go_wp2_with fail
          refine (between_t y 0 25 _ HT2.out _).mono ?_
          rintro e w2 ⟨rfl, hw2⟩
          have hw2 := hw2.symm
          subst hw2
          go_wp2_with fail
          obtain ⟨i, j, rfl, rfl, hi, hj⟩ := HXY.out
          have e3 : Int.toNat (i : Int) = i := by omega
          have e4 : Int.toNat (j : Int) = j := by omega
          rw [e3, e4] at HL
          clear HXY HT1 HT2 e3 e4
          have HCA : Hid (∀ V, Below w.heap.size w V → V.cell? ⟨g, 1, none⟩ = some (.string a)) := fun V hV => (hV.cell hgg).trans h1
          go_region_law (first
            | (go_simp; go_at_call 24; refine (letters_spec i j hi hj _).mono ?_; rintro e w2 ⟨rfl, hb2⟩; have hB2 : Below w.heap.size w w2 := hB1.drew.trans (hb2.mono hB1.size); have c2 := HCA.out w2 hB2; have hblk2 := (hb2.block w.heap.size (by simp; omega)).trans hblk; have hw2 := Nat.le_trans hw1 hb2.size; clear hb2)
            | (go_simp; go_at_call 23; refine (make_any _ _ _ _ _).mono ?_; rintro e w3 ⟨rfl, hb3⟩; obtain ⟨⟨x0, x1, x2, x3, x4, x5⟩, f0, f1, f2, f3, f4, f5⟩ := six_of ((hb3.block w.heap.size (by omega)).trans hblk2); have hB3 : Below w.heap.size w w3 := hB2.trans (hb3.mono hB2.size); clear hb3))
          all_goals
            go_wp2
            rw [HL.out]
            refine bodyPost_ret (v := lnV (.call 1 a ⟨(lettersL i j).toArray⟩ 0) (.slice none 0 0)) (by simp [results, Tryz.results13, go_sem, x0, x1, x2, x3, x4, x5, lnV, LN.call, LN.bad]) rfl ?_
            refine ⟨_, rfl, World.ownsRow_nil _ _ _ _, ?_⟩
            repeat' (first | with_reducible refine Below.setCell ?_ ?_ _ | with_reducible refine Below.alloc ?_ ?_ _ | with_reducible refine Below.drew ?_ | with_reducible assumption | with_reducible exact Below.refl _ _ | (simp; done) | (simp; omega) | omega)
end Go.Proofs.YtfgfdjcgfbodfaaGreatDoor
