/-
  The specification's ParseLine.
-/
import Derived.Test.YtfgfdjcgfbodfaaGreatDoorPco
namespace Go.Proofs.YtfgfdjcgfbodfaaGreatDoor
open Go.RowKit
set_option linter.unusedSimpArgs false
set_option linter.unusedVariables false

def numsLn (ss : List ByteArray) : LN :=
  if weq (sAt ss 0) wArm && (decide (2 ≤ ss.length) && inB (nAt ss 1) 1 100000) then .num 3 (numsOf (ss.drop 1))
  else if weq (sAt ss 0) wCrash then .num 4 (numsOf (ss.drop 1))
  else if weq (sAt ss 0) wFlip && (decide (ss.length = 3) && (inB (nAt ss 1) 0 99999 && inB (nAt ss 2) 1 255)) then .num 5 (numsOf (ss.drop 1))
  else .bad
def parseOf (ss : List ByteArray) : LN :=
  if (callOf ss).k ≠ 0 then callOf ss
  else if decide (ss.length = 1) && weq (sAt ss 0) wMount then .num 2 []
  else if numsFlag (ss.drop 1) then numsLn ss else .bad
def lineOf (l : List UInt8) : LN := if 60000 < l.length then .bad else if (fieldsOf l).length = 0 then .bad else parseOf (basOf (fieldsOf l))
theorem fields_len {l : List UInt8} {n : Nat} (hl : l.length = n) : (fieldsOf l).length ≤ n + 1 := by
  unfold fieldsOf
  split
  · have := cut_len 32 l; omega
  · simp
theorem fields_size {l : List UInt8} {n : Nat} (hl : l.length = n) (i : Nat) (hi : i < (fieldsOf l).length) : (sAt (basOf (fieldsOf l)) i).size ≤ n := by
  unfold fieldsOf at hi ⊢
  split
  · next h =>
    rw [if_pos h] at hi
    rw [basOf_at, List.getElem?_eq_getElem hi]
    have := cut_piece 32 l _ (List.getElem_mem hi)
    show ((cutL 32 l)[i]).toArray.size ≤ _
    rw [List.size_toArray]
    omega
  · next h => rw [if_neg h] at hi; simp at hi
theorem own_set {w : World} {B e n : Nat} {v : Value} {xs : List Value} (h : w.ownsRow B e 1 v n xs) {p : Addr} (u : Value) (hp : p.block < B) : (w.setCell p u).ownsRow B e 1 v n xs :=
  ⟨h.1, h.2.imp id fun ⟨g, cap, cur, h1, h2, h3, h4⟩ => ⟨g, cap, cur, h1, h2, (Below.heap_setCell _ _ _ _ (by omega)).trans h3, h4⟩⟩
theorem own_mono {w : World} {B B' e n : Nat} {v : Value} {xs : List Value} (h : w.ownsRow B e 1 v n xs) (hb : B' ≤ B) : w.ownsRow B' e 1 v n xs :=
  ⟨h.1, h.2.imp id fun ⟨g, cap, cur, h1, h2, h3⟩ => ⟨g, cap, cur, h1, Nat.le_trans hb h2, h3⟩⟩
theorem own_alloc {w : World} {B e n : Nat} {v : Value} {xs : List Value} (h : w.ownsRow B e 1 v n xs) (o : Obj) : (w.alloc o).ownsRow B e 1 v n xs := h.alloc o
theorem own_slice {w : World} {B e n : Nat} {v : Value} {xs : List Value} (h : w.ownsRow B e 1 v n xs) : ∃ a c, v = .slice a n c := by
  rcases h.2 with ⟨rfl, h0⟩ | ⟨g, cap, cur, rfl, _⟩
  · exact ⟨_, _, by rw [h0]⟩
  · exact ⟨_, _, rfl⟩
theorem own_form {w : World} {B e n c : Nat} {a : Option Addr} {xs : List Value} (h : w.ownsRow B e 1 (.slice a n c) n xs) (hn : 0 < n) : ∃ g, a = some ⟨g, 0, none⟩ ∧ ∀ i, i < n → w.cell? ⟨g, i, none⟩ = xs[i]? := by
  rcases h.2 with ⟨_, h0⟩ | ⟨g, cap, cur, hv, _⟩
  · omega
  · injection hv with hv _ _
    subst hv
    exact ⟨g, rfl, fun i hi => h.cellAt i (by omega)⟩
theorem nums_at (ss : List ByteArray) (i : Nat) (h : i + 1 < ss.length) : (i64G (numsOf (ss.drop 1)))[i]? = some (.int .i64 (nAt ss (i + 1))) := by
  unfold i64G numsOf nAt
  rw [List.getElem?_map, List.getElem?_map, List.getElem?_drop, Nat.add_comm 1 i]
  unfold sAt
  rw [List.getElem?_eq_getElem h]
  rfl
set_option maxHeartbeats 4000000 in
set_option maxRecDepth 100000 in
theorem parse_spec (g n c : Nat) (l : List UInt8) (w : World) (h : UHead w g n l) (hn : n ≤ 1048576) (hc : n ≤ c) (hcm : c ≤ 9223372036854775807) :
    Calls Tryz.prog 4 #[.slice (some ⟨g, 0, none⟩) n c] w fun e w' => LAns w w' e (lineOf l) := by
  have hll := h.1
  by_cases h6 : 60000 < n
  · have HL : Hid (lineOf l = .bad) := by show _ = _; unfold lineOf; rw [if_pos (by omega)]
    have h6' : (60000 : Int) < (n : Int) := by omega
    clear h
    go_enter Tryz.func4, Tryz.ntmps4
    go_wp2
    rw [HL.out]
    refine bodyPost_ret (v := lnV .bad (.slice none 0 0)) (by simp [results, Tryz.results4, go_sem, lnV, LN.call, LN.bad]) rfl ?_
    refine ⟨_, rfl, World.ownsRow_nil _ _ _ _, ?_⟩
    repeat' (first | with_reducible refine Below.setCell ?_ ?_ _ | with_reducible refine Below.alloc ?_ ?_ _ | with_reducible refine Below.drew ?_ | with_reducible assumption | with_reducible exact Below.refl _ _ | (simp; done) | (simp; omega) | omega)
  have h6' : ¬ (60000 : Int) < (n : Int) := by omega
  obtain ⟨W0, hW0, HS⟩ := line_world w
  have HF := Lib.hid (fields_spec g n c l W0 (h.below HS.out.1) hn hc hcm)
  have HLO : Hid (lineOf l = if (fieldsOf l).length = 0 then .bad else parseOf (basOf (fieldsOf l))) := by show _ = _; unfold lineOf; rw [if_neg (by omega)]
  generalize lineOf l = LL at *
  have hlen := fields_len hll
  have HSZ := Lib.hid (fields_size hll)
  clear h
  go_enter Tryz.func4, Tryz.ntmps4
  go_wp2_with fail
  refine HF.out.mono ?_
  rintro e w1 ⟨v, rfl, hfr, hb1⟩
  have hB1 := HS.out.1.trans (hb1.mono HS.out.1.size)
  have hblk := (hb1.block w.heap.size (by rw [HS.out.2.2]; omega)).trans HS.out.2.1
  have hw1 : w.heap.size + 1 ≤ w1.heap.size := by have := hb1.size; rw [HS.out.2.2] at this; exact this
  have hbl : (basOf (fieldsOf l)).length = (fieldsOf l).length := by simp [basOf]
  rw [← hbl] at HLO HSZ hlen
  generalize basOf (fieldsOf l) = ss at *
  clear hb1 HF hW0 hbl HS
  obtain ⟨av, cv, rfl, hav⟩ := hfr
  obtain ⟨⟨x0, x1, x2, x3, x4, x5⟩, f0, f1, f2, f3, f4, f5⟩ := six_of hblk
  rcases hav with h0 | ⟨gf, rfl, hmc, hcx, hcell⟩
  · have HL : Hid (LL = .bad) := by show _ = _; rw [HLO.out, if_pos h0]
    rw [h0]
    clear HLO hlen HSZ h0
    go_wp2
    rw [HL.out]
    refine bodyPost_ret (v := lnV .bad (.slice none 0 0)) (by simp [results, Tryz.results4, go_sem, x0, x1, x2, x3, x4, x5, lnV, LN.call, LN.bad]) rfl ?_
    refine ⟨_, rfl, World.ownsRow_nil _ _ _ _, ?_⟩
    repeat' (first | with_reducible refine Below.setCell ?_ ?_ _ | with_reducible refine Below.alloc ?_ ?_ _ | with_reducible refine Below.drew ?_ | with_reducible assumption | with_reducible exact Below.refl _ _ | (simp; done) | (simp; omega) | omega)
  by_cases h0 : ss.length = 0
  · have HL : Hid (LL = .bad) := by show _ = _; rw [HLO.out, if_pos h0]
    rw [h0]
    clear HLO hlen HSZ h0 hcell
    go_wp2
    rw [HL.out]
    refine bodyPost_ret (v := lnV .bad (.slice none 0 0)) (by simp [results, Tryz.results4, go_sem, x0, x1, x2, x3, x4, x5, lnV, LN.call, LN.bad]) rfl ?_
    refine ⟨_, rfl, World.ownsRow_nil _ _ _ _, ?_⟩
    repeat' (first | with_reducible refine Below.setCell ?_ ?_ _ | with_reducible refine Below.alloc ?_ ?_ _ | with_reducible refine Below.drew ?_ | with_reducible assumption | with_reducible exact Below.refl _ _ | (simp; done) | (simp; omega) | omega)
  have HLP : Hid (LL = parseOf ss) := by show _ = _; rw [HLO.out, if_neg h0]
  have HCL := Lib.hid (callLine_any gf cv ss w1 (by omega) (by omega) hcell (fun i hi => Nat.le_trans (HSZ.out i hi) hn) hmc (by unfold maxLen at hcx; omega))
  obtain ⟨m, hm⟩ : ∃ m, ss.length = m := ⟨_, rfl⟩
  have HM := Lib.hid hm
  have HCE := Lib.hid hcell
  rw [hm] at HCL hmc hlen HSZ HCE h0
  rw [hm]
  clear hm HLO hcell
  have hm0 : ((m : Int) == 0) = false := by rw [beq_eq_false_iff_ne]; omega
  have hm0' : ¬ m = 0 := h0
  go_wp2_with fail
  refine HCL.out.mono ?_
  rintro e w2 ⟨vc, rfl, hown, hb2⟩
  have hB2 := hB1.trans (hb2.mono hB1.size)
  have hblk2 := (hb2.block w.heap.size (by omega)).trans hblk
  have hw2 := hb2.size
  have hlt2 : w.heap.size < w2.heap.size := by omega
  have hne2 : ¬ w.heap.size = w2.heap.size := by omega
  have hne2' : ¬ w2.heap.size = w.heap.size := by omega
  have HCE2 : Hid (∀ i, i < m → w2.cell? ⟨gf, i, none⟩ = some (.string (sAt ss i))) := fun i hi => (hb2.cell (World.block_lt_of_cell? w1 _ (HCE.out i hi))).trans (HCE.out i hi)
  clear hb2 HCL HCE x0 x1 x2 x3 x4 x5 f0 f1 f2 f3 f4 f5 hblk
  obtain ⟨⟨x0, x1, x2, x3, x4, x5⟩, f0, f1, f2, f3, f4, f5⟩ := six_of hblk2
  unfold lnV
  obtain ⟨ac, cc, rfl⟩ := own_slice hown
  have HPO : Hid (LL = if (callOf ss).k ≠ 0 then callOf ss else if decide (ss.length = 1) && weq (sAt ss 0) wMount then .num 2 [] else if numsFlag (ss.drop 1) then numsLn ss else .bad) := HLP.out
  clear HLP
  by_cases hk : (callOf ss).k = 0
  case neg =>
    have HL : Hid (LL = callOf ss) := by show _ = _; rw [HPO.out, if_pos hk]
    have hk' : ((callOf ss).k != 0) = true := by simpa using hk
    clear HPO hk hblk2
    generalize callOf ss = cl at *
    go_wp2
    rw [HL.out]
    refine bodyPost_ret (v := lnV cl (.slice ac cl.ns.length cc)) (by simp [results, Tryz.results4, go_sem, x0, x1, x2, x3, x4, x5, lnV, hlt2, hne2, hne2']) rfl ?_
    refine ⟨_, rfl, own_mono (B := w1.heap.size) ?_ (by omega), ?_⟩
    · repeat' (first | with_reducible refine own_set ?_ _ ?_ | with_reducible refine own_alloc ?_ _ | with_reducible assumption | (simp; done) | (simp; omega) | omega)
    · repeat' (first | with_reducible refine Below.setCell ?_ ?_ _ | with_reducible refine Below.alloc ?_ ?_ _ | with_reducible refine Below.drew ?_ | with_reducible assumption | with_reducible exact Below.refl _ _ | (simp; done) | (simp; omega) | omega)
  have hk' : ((callOf ss).k != 0) = false := by simpa using hk
  have HPO2 : Hid (LL = if decide (ss.length = 1) && weq (sAt ss 0) wMount then .num 2 [] else if numsFlag (ss.drop 1) then numsLn ss else .bad) := by show _ = _; rw [HPO.out, if_neg (fun h => h hk)]
  clear HPO hk
  generalize callOf ss = cl at *
  obtain ⟨W3, hW3⟩ : ∃ W3, w2.alloc (.cells #[.int .i64 cl.k, .int .i64 cl.ck, .string cl.nm, .string cl.dt, .int .i64 cl.sz, .slice ac cl.ns.length cc] 27) = W3 := ⟨_, rfl⟩
  have hb3 : Below w2.heap.size w2 W3 := by rw [← hW3]; exact (Below.refl _ _).alloc (Nat.le_refl _) _
  have hkc : W3.cell? ⟨w2.heap.size, 0, none⟩ = some (.int .i64 cl.k) := by rw [← hW3, World.cell?, heap_alloc_new]; rfl
  have hB3 := hB2.trans (hb3.mono (by omega))
  have hblk3 := (hb3.block w.heap.size hlt2).trans hblk2
  have hw3 := hb3.size
  have HCE3 : Hid (∀ i, i < m → W3.cell? ⟨gf, i, none⟩ = some (.string (sAt ss i))) := fun i hi => (hb3.cell (World.block_lt_of_cell? w2 _ (HCE2.out i hi))).trans (HCE2.out i hi)
  have d0 := HCE3.out 0 (by omega)
  obtain ⟨bm, em⟩ : ∃ b, ((sAt ss 0).toList == [109, 111, 117, 110, 116]) = b := ⟨_, rfl⟩
  clear hb3 HCE2 hblk2 hown x0 x1 x2 x3 x4 x5 f0 f1 f2 f3 f4 f5
  obtain ⟨⟨x0, x1, x2, x3, x4, x5⟩, f0, f1, f2, f3, f4, f5⟩ := six_of hblk3
  by_cases hmt : m = 1 ∧ bm = true
  case pos =>
    obtain ⟨rfl, rfl⟩ := hmt
    have HL : Hid (LL = .num 2 []) := by show _ = _; rw [HPO2.out, HM.out]; unfold weq; rw [em]; rfl
    clear HPO2
    go_wp2
    rw [HL.out]
    refine bodyPost_ret (v := lnV (.num 2 []) (.slice none 0 0)) (by simp [results, Tryz.results4, go_sem, x0, x1, x2, x3, x4, x5, lnV, LN.num]) rfl ?_
    refine ⟨_, rfl, World.ownsRow_nil _ _ _ _, ?_⟩
    repeat' (first | with_reducible refine Below.setCell ?_ ?_ _ | with_reducible refine Below.alloc ?_ ?_ _ | with_reducible refine Below.drew ?_ | with_reducible assumption | with_reducible exact Below.refl _ _ | (simp; done) | (simp; omega) | omega)
  have HPO3 : Hid (LL = if numsFlag (ss.drop 1) then numsLn ss else .bad) := by
    show _ = _
    rw [HPO2.out, HM.out]
    unfold weq
    rw [em]
    by_cases h1 : m = 1
    · have : bm = false := by cases bm <;> simp_all
      rw [this, Bool.and_false]; rfl
    · rw [decide_eq_false h1]; rfl
  obtain ⟨q, hq⟩ : ∃ q, numsFlag (ss.drop 1) = q := ⟨_, rfl⟩
  obtain ⟨k, hk⟩ : ∃ k, m - 1 = k := ⟨_, rfl⟩
  have HN : Hid (∀ a, SRow W3 a k (ss.drop 1) → Calls Tryz.prog 14 #[.slice a k (cv - 1)] W3 fun e w' => ∃ v, e = .returned (.tuple #[v, .bool q]) ∧ (q = true → w'.ownsRow W3.heap.size 2 1 v k (i64G (numsOf (ss.drop 1)))) ∧ Below W3.heap.size W3 w') := fun a ha => by
    have h := nums_spec a k (cv - 1) (ss.drop 1) W3 ha (fun i hi => by rw [sAt_drop]; exact Nat.le_trans (HSZ.out _ (by omega)) hn) (by omega)
    rw [hq] at h
    exact h
  have HSR : Hid (SRow W3 (some ⟨gf, 1, none⟩) k (ss.drop 1)) := by rw [← hk]; exact srow_drop HM.out HCE3.out
  have HSN : Hid (m = 1 → SRow W3 (some ⟨gf, 0, none⟩) k (ss.drop 1)) := fun h => ⟨by rw [List.length_drop, HM.out]; exact hk, .inl (by omega)⟩
  have HNL : Hid ((numsOf (ss.drop 1)).length = k) := by show _ = _; rw [numsOf, List.length_map, List.length_drop, HM.out]; exact hk
  rw [hq] at HPO3
  clear HPO2 hq
  have h3 : (m = 1 ∧ cv = 1) ∨ (m = 1 ∧ ¬ cv = 1) ∨ ¬ m = 1 := by omega
  have hbm : m = 1 → bm = false := by cases bm <;> simp_all
  have HM1 : Hid (1 ≤ m) := by show _ ≤ _; omega
  rcases h3 with ⟨h1, hc1⟩ | ⟨h1, hc1⟩ | h1
  case' inl =>
    have hbm := hbm h1
    subst hbm
    have HSN2 := Lib.hid (HSN.out h1)
    have HK0 : Hid (k = 0) := by show _ = _; omega
    have h1' : ((m : Int) == 1) = true := by rw [h1]; rfl
    subst hc1
    clear h1
    go_wp2_with fail
    refine (HN.out _ HSN2.out).mono ?_
  case' inr.inl =>
    have hbm := hbm h1
    subst hbm
    have HSN2 := Lib.hid (HSN.out h1)
    have HK0 : Hid (k = 0) := by show _ = _; omega
    have h1' : ((m : Int) == 1) = true := by rw [h1]; rfl
    clear h1
    go_wp2_with fail
    refine (HN.out _ HSR.out).mono ?_
  case' inr.inr =>
    have HSN2 : Hid True := trivial
    have HK0 : Hid True := trivial
    have h1' : ((m : Int) == 1) = false := by rw [beq_eq_false_iff_ne]; omega
    clear hbm
    go_wp2_with fail
    refine (HN.out _ HSR.out).mono ?_
  all_goals
    rintro e w4 ⟨v, rfl, hv, hb4⟩
    have hB4 := hB3.trans (hb4.mono (by omega))
    have hblk4 := (hb4.block w.heap.size (by omega)).trans hblk3
    have hw4 := hb4.size
    have HCE4 : Hid (∀ i, i < _ → w4.cell? ⟨gf, i, none⟩ = some (.string (sAt ss i))) := fun i hi => (hb4.cell (World.block_lt_of_cell? W3 _ (HCE3.out i hi))).trans (HCE3.out i hi)
    have HV := Lib.hid hv
    clear hb4 hv HN HSR HSN HSN2 hblk3 hkc hW3 HCE3 x0 x1 x2 x3 x4 x5 f0 f1 f2 f3 f4 f5 d0
    obtain ⟨⟨x0, x1, x2, x3, x4, x5⟩, f0, f1, f2, f3, f4, f5⟩ := six_of hblk4
    have d0 := HCE4.out 0 HM1.out
    cases q
    case false =>
      have HL : Hid (LL = .bad) := HPO3.out
      clear HPO3
      go_wp2
      rw [HL.out]
      refine bodyPost_ret (v := lnV .bad (.slice none 0 0)) (by simp [results, Tryz.results4, go_sem, x0, x1, x2, x3, x4, x5, lnV, LN.call, LN.bad]) rfl ?_
      refine ⟨_, rfl, World.ownsRow_nil _ _ _ _, ?_⟩
      repeat' (first | with_reducible refine Below.setCell ?_ ?_ _ | with_reducible refine Below.alloc ?_ ?_ _ | with_reducible refine Below.drew ?_ | with_reducible assumption | with_reducible exact Below.refl _ _ | (simp; done) | (simp; omega) | omega)
    case true =>
      obtain ⟨av2, cv2, rfl⟩ := own_slice (HV.out rfl)
      have own := HV.out rfl
      obtain ⟨ba, ea⟩ : ∃ b, ((sAt ss 0).toList == [97, 114, 109]) = b := ⟨_, rfl⟩
      obtain ⟨bc, ec⟩ : ∃ b, ((sAt ss 0).toList == [99, 114, 97, 115, 104]) = b := ⟨_, rfl⟩
      obtain ⟨bf, ef⟩ : ∃ b, ((sAt ss 0).toList == [102, 108, 105, 112]) = b := ⟨_, rfl⟩
      have HNN : Hid (LL = if (ba && (decide (2 ≤ m) && inB (nAt ss 1) 1 100000)) = true then .num 3 (numsOf (ss.drop 1)) else if bc = true then .num 4 (numsOf (ss.drop 1)) else if (bf && (decide (m = 3) && (inB (nAt ss 1) 0 99999 && inB (nAt ss 2) 1 255))) = true then .num 5 (numsOf (ss.drop 1)) else .bad) := by
        show _ = _
        rw [HPO3.out, if_pos rfl, numsLn, HM.out]
        unfold weq
        rw [ea, ec, ef]
      have hac : ba = true → bc = false ∧ bf = false := fun h => by
        subst h
        have := eq_of_beq ea
        rw [this] at ec ef
        exact ⟨ec.symm, ef.symm⟩
      have hcf : bc = true → bf = false := fun h => by
        subst h
        have := eq_of_beq ec
        rw [this] at ef
        exact ef.symm
      have HON := Lib.hid own
      clear HPO3 HV
      generalize sAt ss 0 = s0 at *
      generalize hx : nAt ss 1 = x at *
      generalize hy : nAt ss 2 = y at *
      cases ba
      case true =>
        obtain ⟨rfl, rfl⟩ := hac rfl
        clear hac hcf
        by_cases hk1 : 1 ≤ k
        case neg =>
          first
            | (exfalso; omega)
            | (have hk1' : ¬ (1 : Int) ≤ (k : Int) := by omega
               have HL : Hid (LL = .bad) := by show _ = _; rw [HNN.out, decide_eq_false (p := 2 ≤ m) (by omega)]; rfl
               clear HNN own
               go_wp2
               rw [HL.out]
               refine bodyPost_ret (v := lnV .bad (.slice none 0 0)) (by simp [results, Tryz.results4, go_sem, x0, x1, x2, x3, x4, x5, lnV, LN.call, LN.bad]) rfl ?_
               refine ⟨_, rfl, World.ownsRow_nil _ _ _ _, ?_⟩
               repeat' (first | with_reducible refine Below.setCell ?_ ?_ _ | with_reducible refine Below.alloc ?_ ?_ _ | with_reducible refine Below.drew ?_ | with_reducible assumption | with_reducible exact Below.refl _ _ | (simp; done) | (simp; omega) | omega))
        first
          | (exfalso; have := HK0.out; omega)
          | (have hk1' : (1 : Int) ≤ (k : Int) := by omega
             have hk0' : (0 : Int) < (k : Int) := by omega
             obtain ⟨gv, rfl, hcv⟩ := own_form own (by omega)
             have v0 : w4.cell? ⟨gv, 0, none⟩ = some (.int .i64 x) := by rw [hcv 0 (by omega), nums_at ss 0 (by rw [HM.out]; omega), ← hx]
             have HT : Hid (LL = if inB x 1 100000 = true then .num 3 (numsOf (ss.drop 1)) else .bad) := by show _ = _; rw [HNN.out, decide_eq_true (p := 2 ≤ m) (by omega)]; rfl
             obtain ⟨t1, ht1⟩ : ∃ t, inB x 1 100000 = t := ⟨_, rfl⟩
             have HT1 := Lib.hid ht1
             rw [ht1] at HT
             clear HNN hcv ht1
             cases t1
             case false =>
               have HL : Hid (LL = .bad) := HT.out
               clear own HT
               go_wp2_with fail
               refine (between_t x 1 100000 _ HT1.out _).mono ?_
               rintro e w5 ⟨rfl, hw5⟩
               have hw5 := hw5.symm
               subst hw5
               go_wp2
               rw [HL.out]
               refine bodyPost_ret (v := lnV .bad (.slice none 0 0)) (by simp [results, Tryz.results4, go_sem, x0, x1, x2, x3, x4, x5, lnV, LN.call, LN.bad]) rfl ?_
               refine ⟨_, rfl, World.ownsRow_nil _ _ _ _, ?_⟩
               repeat' (first | with_reducible refine Below.setCell ?_ ?_ _ | with_reducible refine Below.alloc ?_ ?_ _ | with_reducible refine Below.drew ?_ | with_reducible assumption | with_reducible exact Below.refl _ _ | (simp; done) | (simp; omega) | omega)
             case true =>
               have HL : Hid (LL = .num 3 (numsOf (ss.drop 1))) := HT.out
               clear own HT
               go_wp2_with fail
               refine (between_t x 1 100000 _ HT1.out _).mono ?_
               rintro e w5 ⟨rfl, hw5⟩
               have hw5 := hw5.symm
               subst hw5
               go_wp2
               have own := HON.out
               rw [HL.out]
               refine bodyPost_ret (v := lnV (.num 3 (numsOf (ss.drop 1))) (.slice (some ⟨gv, 0, none⟩) k cv2)) (by simp [results, Tryz.results4, go_sem, x0, x1, x2, x3, x4, x5, lnV, LN.num]) rfl ?_
               refine ⟨_, rfl, own_mono (B := W3.heap.size) ?_ (by omega), ?_⟩
               · rw [show (LN.num 3 (numsOf (ss.drop 1))).ns = numsOf (ss.drop 1) from rfl, HNL.out]
                 repeat' (first | with_reducible refine own_set ?_ _ ?_ | with_reducible refine own_alloc ?_ _ | with_reducible assumption | (simp; done) | (simp; omega) | omega)
               · repeat' (first | with_reducible refine Below.setCell ?_ ?_ _ | with_reducible refine Below.alloc ?_ ?_ _ | with_reducible refine Below.drew ?_ | with_reducible assumption | with_reducible exact Below.refl _ _ | (simp; done) | (simp; omega) | omega))
      cases bc
      case true =>
        obtain rfl := hcf rfl
        have HL : Hid (LL = .num 4 (numsOf (ss.drop 1))) := by show _ = _; rw [HNN.out]; rfl
        clear HNN own hac hcf
        go_wp2
        have own := HON.out
        rw [HL.out]
        refine bodyPost_ret (v := lnV (.num 4 (numsOf (ss.drop 1))) (.slice av2 k cv2)) (by simp [results, Tryz.results4, go_sem, x0, x1, x2, x3, x4, x5, lnV, LN.num]) rfl ?_
        refine ⟨_, rfl, own_mono (B := W3.heap.size) ?_ (by omega), ?_⟩
        · rw [show (LN.num 4 (numsOf (ss.drop 1))).ns = numsOf (ss.drop 1) from rfl, HNL.out]
          repeat' (first | with_reducible refine own_set ?_ _ ?_ | with_reducible refine own_alloc ?_ _ | with_reducible assumption | (simp; done) | (simp; omega) | omega)
        · repeat' (first | with_reducible refine Below.setCell ?_ ?_ _ | with_reducible refine Below.alloc ?_ ?_ _ | with_reducible refine Below.drew ?_ | with_reducible assumption | with_reducible exact Below.refl _ _ | (simp; done) | (simp; omega) | omega)
      clear hac hcf
      cases bf
      case false =>
        have HL : Hid (LL = .bad) := by show _ = _; rw [HNN.out]; rfl
        clear HNN own
        go_wp2
        rw [HL.out]
        refine bodyPost_ret (v := lnV .bad (.slice none 0 0)) (by simp [results, Tryz.results4, go_sem, x0, x1, x2, x3, x4, x5, lnV, LN.call, LN.bad]) rfl ?_
        refine ⟨_, rfl, World.ownsRow_nil _ _ _ _, ?_⟩
        repeat' (first | with_reducible refine Below.setCell ?_ ?_ _ | with_reducible refine Below.alloc ?_ ?_ _ | with_reducible refine Below.drew ?_ | with_reducible assumption | with_reducible exact Below.refl _ _ | (simp; done) | (simp; omega) | omega)
      by_cases hk2 : k = 2
      case neg =>
        have hk2' : ((k : Int) == 2) = false := by rw [beq_eq_false_iff_ne]; omega
        have HL : Hid (LL = .bad) := by show _ = _; rw [HNN.out, decide_eq_false (p := m = 3) (by omega)]; rfl
        clear HNN own
        go_wp2
        rw [HL.out]
        refine bodyPost_ret (v := lnV .bad (.slice none 0 0)) (by simp [results, Tryz.results4, go_sem, x0, x1, x2, x3, x4, x5, lnV, LN.call, LN.bad]) rfl ?_
        refine ⟨_, rfl, World.ownsRow_nil _ _ _ _, ?_⟩
        repeat' (first | with_reducible refine Below.setCell ?_ ?_ _ | with_reducible refine Below.alloc ?_ ?_ _ | with_reducible refine Below.drew ?_ | with_reducible assumption | with_reducible exact Below.refl _ _ | (simp; done) | (simp; omega) | omega)
      first
        | (exfalso; have := HK0.out; omega)
        | (have hk2' : ((k : Int) == 2) = true := by rw [hk2]; rfl
           have hk0' : (0 : Int) < (k : Int) := by omega
           have hk1' : (1 : Int) < (k : Int) := by omega
           obtain ⟨gv, rfl, hcv⟩ := own_form own (by omega)
           have v0 : w4.cell? ⟨gv, 0, none⟩ = some (.int .i64 x) := by rw [hcv 0 (by omega), nums_at ss 0 (by rw [HM.out]; omega), ← hx]
           have v1 : w4.cell? ⟨gv, 1, none⟩ = some (.int .i64 y) := by rw [hcv 1 (by omega), nums_at ss 1 (by rw [HM.out]; omega), ← hy]
           obtain ⟨t1, ht1⟩ : ∃ t, inB x 0 99999 = t := ⟨_, rfl⟩
           obtain ⟨t2, ht2⟩ : ∃ t, inB y 1 255 = t := ⟨_, rfl⟩
           have HT : Hid (LL = if (t1 && t2) = true then .num 5 (numsOf (ss.drop 1)) else .bad) := by show _ = _; rw [HNN.out, decide_eq_true (p := m = 3) (by omega), ht1, ht2]; rfl
           have HT1 := Lib.hid ht1
           have HT2 := Lib.hid ht2
           have HK2 := Lib.hid hk2
           clear HNN hcv ht1 ht2 hk2
           cases t1
           case false =>
             have HL : Hid (LL = .bad) := HT.out
             clear own HT
             go_wp2_with fail
             refine (between_t x 0 99999 _ HT1.out _).mono ?_
             rintro e w5 ⟨rfl, hw5⟩
             have hw5 := hw5.symm
             subst hw5
             go_wp2
             rw [HL.out]
             refine bodyPost_ret (v := lnV .bad (.slice none 0 0)) (by simp [results, Tryz.results4, go_sem, x0, x1, x2, x3, x4, x5, lnV, LN.call, LN.bad]) rfl ?_
             refine ⟨_, rfl, World.ownsRow_nil _ _ _ _, ?_⟩
             repeat' (first | with_reducible refine Below.setCell ?_ ?_ _ | with_reducible refine Below.alloc ?_ ?_ _ | with_reducible refine Below.drew ?_ | with_reducible assumption | with_reducible exact Below.refl _ _ | (simp; done) | (simp; omega) | omega)
           cases t2
           case false =>
             have HL : Hid (LL = .bad) := HT.out
             clear own HT
             go_wp2_with fail
             refine (between_t x 0 99999 _ HT1.out _).mono ?_
             rintro e w5 ⟨rfl, hw5⟩
             have hw5 := hw5.symm
             subst hw5
             go_wp2_with fail
             refine (between_t y 1 255 _ HT2.out _).mono ?_
             rintro e w5 ⟨rfl, hw5⟩
             have hw5 := hw5.symm
             subst hw5
             go_wp2
             rw [HL.out]
             refine bodyPost_ret (v := lnV .bad (.slice none 0 0)) (by simp [results, Tryz.results4, go_sem, x0, x1, x2, x3, x4, x5, lnV, LN.call, LN.bad]) rfl ?_
             refine ⟨_, rfl, World.ownsRow_nil _ _ _ _, ?_⟩
             repeat' (first | with_reducible refine Below.setCell ?_ ?_ _ | with_reducible refine Below.alloc ?_ ?_ _ | with_reducible refine Below.drew ?_ | with_reducible assumption | with_reducible exact Below.refl _ _ | (simp; done) | (simp; omega) | omega)
           case true =>
             have HL : Hid (LL = .num 5 (numsOf (ss.drop 1))) := HT.out
             clear own HT
             go_wp2_with fail
             refine (between_t x 0 99999 _ HT1.out _).mono ?_
             rintro e w5 ⟨rfl, hw5⟩
             have hw5 := hw5.symm
             subst hw5
             go_wp2_with fail
             refine (between_t y 1 255 _ HT2.out _).mono ?_
             rintro e w5 ⟨rfl, hw5⟩
             have hw5 := hw5.symm
             subst hw5
             go_wp2
             have own := HON.out
             rw [HL.out]
             refine bodyPost_ret (v := lnV (.num 5 (numsOf (ss.drop 1))) (.slice (some ⟨gv, 0, none⟩) k cv2)) (by simp [results, Tryz.results4, go_sem, x0, x1, x2, x3, x4, x5, lnV, LN.num]) rfl ?_
             refine ⟨_, rfl, own_mono (B := W3.heap.size) ?_ (by omega), ?_⟩
             · rw [show (LN.num 5 (numsOf (ss.drop 1))).ns = numsOf (ss.drop 1) from rfl, HNL.out]
               repeat' (first | with_reducible refine own_set ?_ _ ?_ | with_reducible refine own_alloc ?_ _ | with_reducible assumption | (simp; done) | (simp; omega) | omega)
             · repeat' (first | with_reducible refine Below.setCell ?_ ?_ _ | with_reducible refine Below.alloc ?_ ?_ _ | with_reducible refine Below.drew ?_ | with_reducible assumption | with_reducible exact Below.refl _ _ | (simp; done) | (simp; omega) | omega))
end Go.Proofs.YtfgfdjcgfbodfaaGreatDoor
