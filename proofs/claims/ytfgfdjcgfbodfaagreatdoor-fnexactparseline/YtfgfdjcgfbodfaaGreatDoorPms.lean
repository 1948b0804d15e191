/-
  The program's ParseLine.
-/
import Derived.Test.YtfgfdjcgfbodfaaGreatDoorPmr
namespace Go.Proofs.YtfgfdjcgfbodfaaGreatDoor
open Go.RowKit
set_option linter.unusedSimpArgs false
set_option linter.unusedVariables false

theorem weq_of {s : ByteArray} {a : List UInt8} (h : s.data.toList = a) : weq s a = true := by
  unfold weq
  rw [Go.ByteArray.toList_eq, h]
  exact beq_self_eq_true _
theorem weq_no {s : ByteArray} {a : List UInt8} (h : ¬ s.data.toList = a) : weq s a = false := by
  unfold weq
  rw [Go.ByteArray.toList_eq, beq_eq_false_iff_ne]
  exact h
theorem look_words (w : World) (s : ByteArray) (r : List ByteArray) (vWrite vFill vRead vTrunc vDel vList vSync vClean vStat vMount vArm vCrash vFlip : Value) (hP : Prs w vWrite writeOf ∧ Prs w vFill fillOf ∧ Prs w vRead (namedOf 2) ∧ Prs w vTrunc truncOf ∧ Prs w vDel (namedOf 4) ∧ Prs w vList (bareOf ⟨1, 5, ⟨#[]⟩, ⟨#[]⟩, 0, []⟩) ∧ Prs w vSync (bareOf ⟨1, 6, ⟨#[]⟩, ⟨#[]⟩, 0, []⟩) ∧ Prs w vClean (bareOf ⟨1, 7, ⟨#[]⟩, ⟨#[]⟩, 0, []⟩) ∧ Prs w vStat (bareOf ⟨1, 8, ⟨#[]⟩, ⟨#[]⟩, 0, []⟩) ∧ Prs w vMount (bareOf ⟨2, 0, ⟨#[]⟩, ⟨#[]⟩, 0, []⟩) ∧ Prs w vArm armOf ∧ Prs w vCrash crashOf ∧ Prs w vFlip flipOf) :
    (lookL s.data.toList [(wWrite, vWrite), (wFill, vFill), (wRead, vRead), (wTrunc, vTrunc), (wDel, vDel), (wList, vList), (wSync, vSync), (wClean, vClean), (wStat, vStat), (wMount, vMount), (wArm, vArm), (wCrash, vCrash), (wFlip, vFlip)] = none ∧ parseOf (s :: r) = .bad) ∨ ∃ v f, lookL s.data.toList [(wWrite, vWrite), (wFill, vFill), (wRead, vRead), (wTrunc, vTrunc), (wDel, vDel), (wList, vList), (wSync, vSync), (wClean, vClean), (wStat, vStat), (wMount, vMount), (wArm, vArm), (wCrash, vCrash), (wFlip, vFlip)] = some v ∧ Prs w v f ∧ parseOf (s :: r) = f r := by
  obtain ⟨qWrite, qFill, qRead, qTrunc, qDel, qList, qSync, qClean, qStat, qMount, qArm, qCrash, qFlip⟩ := hP
  by_cases nWrite : s.data.toList = wWrite
  · exact .inr ⟨vWrite, _, by simp only [lookL]; rw [if_pos nWrite], qWrite, (eqWrite (weq_of nWrite) r).symm⟩
  by_cases nFill : s.data.toList = wFill
  · exact .inr ⟨vFill, _, by simp only [lookL]; rw [if_neg nWrite, if_pos nFill], qFill, (eqFill (weq_of nFill) r).symm⟩
  by_cases nRead : s.data.toList = wRead
  · exact .inr ⟨vRead, _, by simp only [lookL]; rw [if_neg nWrite, if_neg nFill, if_pos nRead], qRead, (eqRead (weq_of nRead) r).symm⟩
  by_cases nTrunc : s.data.toList = wTrunc
  · exact .inr ⟨vTrunc, _, by simp only [lookL]; rw [if_neg nWrite, if_neg nFill, if_neg nRead, if_pos nTrunc], qTrunc, (eqTrunc (weq_of nTrunc) r).symm⟩
  by_cases nDel : s.data.toList = wDel
  · exact .inr ⟨vDel, _, by simp only [lookL]; rw [if_neg nWrite, if_neg nFill, if_neg nRead, if_neg nTrunc, if_pos nDel], qDel, (eqDel (weq_of nDel) r).symm⟩
  by_cases nList : s.data.toList = wList
  · exact .inr ⟨vList, _, by simp only [lookL]; rw [if_neg nWrite, if_neg nFill, if_neg nRead, if_neg nTrunc, if_neg nDel, if_pos nList], qList, (eqList (weq_of nList) r).symm⟩
  by_cases nSync : s.data.toList = wSync
  · exact .inr ⟨vSync, _, by simp only [lookL]; rw [if_neg nWrite, if_neg nFill, if_neg nRead, if_neg nTrunc, if_neg nDel, if_neg nList, if_pos nSync], qSync, (eqSync (weq_of nSync) r).symm⟩
  by_cases nClean : s.data.toList = wClean
  · exact .inr ⟨vClean, _, by simp only [lookL]; rw [if_neg nWrite, if_neg nFill, if_neg nRead, if_neg nTrunc, if_neg nDel, if_neg nList, if_neg nSync, if_pos nClean], qClean, (eqClean (weq_of nClean) r).symm⟩
  by_cases nStat : s.data.toList = wStat
  · exact .inr ⟨vStat, _, by simp only [lookL]; rw [if_neg nWrite, if_neg nFill, if_neg nRead, if_neg nTrunc, if_neg nDel, if_neg nList, if_neg nSync, if_neg nClean, if_pos nStat], qStat, (eqStat (weq_of nStat) r).symm⟩
  by_cases nMount : s.data.toList = wMount
  · exact .inr ⟨vMount, _, by simp only [lookL]; rw [if_neg nWrite, if_neg nFill, if_neg nRead, if_neg nTrunc, if_neg nDel, if_neg nList, if_neg nSync, if_neg nClean, if_neg nStat, if_pos nMount], qMount, (eqMount (weq_of nMount) r).symm⟩
  by_cases nArm : s.data.toList = wArm
  · exact .inr ⟨vArm, _, by simp only [lookL]; rw [if_neg nWrite, if_neg nFill, if_neg nRead, if_neg nTrunc, if_neg nDel, if_neg nList, if_neg nSync, if_neg nClean, if_neg nStat, if_neg nMount, if_pos nArm], qArm, (eqArm (weq_of nArm) r).symm⟩
  by_cases nCrash : s.data.toList = wCrash
  · exact .inr ⟨vCrash, _, by simp only [lookL]; rw [if_neg nWrite, if_neg nFill, if_neg nRead, if_neg nTrunc, if_neg nDel, if_neg nList, if_neg nSync, if_neg nClean, if_neg nStat, if_neg nMount, if_neg nArm, if_pos nCrash], qCrash, (eqCrash (weq_of nCrash) r).symm⟩
  by_cases nFlip : s.data.toList = wFlip
  · exact .inr ⟨vFlip, _, by simp only [lookL]; rw [if_neg nWrite, if_neg nFill, if_neg nRead, if_neg nTrunc, if_neg nDel, if_neg nList, if_neg nSync, if_neg nClean, if_neg nStat, if_neg nMount, if_neg nArm, if_neg nCrash, if_pos nFlip], qFlip, (eqFlip (weq_of nFlip) r).symm⟩
  · exact .inl ⟨by simp only [lookL]; rw [if_neg nWrite, if_neg nFill, if_neg nRead, if_neg nTrunc, if_neg nDel, if_neg nList, if_neg nSync, if_neg nClean, if_neg nStat, if_neg nMount, if_neg nArm, if_neg nCrash, if_neg nFlip], (eqNone (weq_no nWrite) (weq_no nFill) (weq_no nRead) (weq_no nTrunc) (weq_no nDel) (weq_no nList) (weq_no nSync) (weq_no nClean) (weq_no nStat) (weq_no nMount) (weq_no nArm) (weq_no nCrash) (weq_no nFlip) r).symm⟩
theorem look_line (w : World) (rm : Nat) (s : ByteArray) (r : List ByteArray) (vWrite vFill vRead vTrunc vDel vList vSync vClean vStat vMount vArm vCrash vFlip : Value) (hM : MAt w rm [(wWrite, vWrite), (wFill, vFill), (wRead, vRead), (wTrunc, vTrunc), (wDel, vDel), (wList, vList), (wSync, vSync), (wClean, vClean), (wStat, vStat), (wMount, vMount), (wArm, vArm), (wCrash, vCrash), (wFlip, vFlip)]) (hP : Prs w vWrite writeOf ∧ Prs w vFill fillOf ∧ Prs w vRead (namedOf 2) ∧ Prs w vTrunc truncOf ∧ Prs w vDel (namedOf 4) ∧ Prs w vList (bareOf ⟨1, 5, ⟨#[]⟩, ⟨#[]⟩, 0, []⟩) ∧ Prs w vSync (bareOf ⟨1, 6, ⟨#[]⟩, ⟨#[]⟩, 0, []⟩) ∧ Prs w vClean (bareOf ⟨1, 7, ⟨#[]⟩, ⟨#[]⟩, 0, []⟩) ∧ Prs w vStat (bareOf ⟨1, 8, ⟨#[]⟩, ⟨#[]⟩, 0, []⟩) ∧ Prs w vMount (bareOf ⟨2, 0, ⟨#[]⟩, ⟨#[]⟩, 0, []⟩) ∧ Prs w vArm armOf ∧ Prs w vCrash crashOf ∧ Prs w vFlip flipOf) :
    ∃ vv bb, (Instr.lookup 45 (.map (some rm)) (.string s) true).run Tryz.prog w = .ok (.tuple #[vv, .bool bb]) w ∧ ((bb = false ∧ parseOf (s :: r) = .bad) ∨ (bb = true ∧ ∃ f, Prs w vv f ∧ parseOf (s :: r) = f r)) := by
  rcases look_words w s r vWrite vFill vRead vTrunc vDel vList vSync vClean vStat vMount vArm vCrash vFlip hP with ⟨h1, h2⟩ | ⟨v, f, h1, h2, h3⟩
  · exact ⟨_, _, map_look hM s none h1, .inl ⟨rfl, h2⟩⟩
  · exact ⟨_, _, map_look hM s (some v) h1, .inr ⟨rfl, f, h2, h3⟩⟩
theorem line_cut {l : List UInt8} {q : Bool} (hl : ¬ 60000 < l.length) (hq : (cutL 32 l).all fdOk = q) : lineOf l = if q = true then parseOf (basOf (cutL 32 l)) else .bad := by
  unfold lineOf fieldsOf
  rw [if_neg hl, hq]
  cases q
  · rfl
  · rw [if_pos rfl, if_pos rfl, if_neg]
    intro h
    exact cut_ne 32 l (List.length_eq_zero_iff.1 h)
set_option maxHeartbeats 4000000 in
set_option maxRecDepth 100000 in
theorem impl_parse (g n c : Nat) (l : List UInt8) (m : Int) (w : World) (h : UHead w g n l) (hn : n ≤ 1048576) (hm : w.cell? ⟨0, 0, none⟩ = some (.int .i64 m)) :
    Calls Tryz.prog 6 #[.slice (some ⟨g, 0, none⟩) n c] w fun e w' => LAns w w' e (lineOf l) := by
  have hll := h.1
  by_cases h6 : 60000 < n
  · have HL : Hid (lineOf l = .bad) := by show _ = _; unfold lineOf; rw [if_pos (by omega)]
    have h6' : (60000 : Int) < (n : Int) := by omega
    clear h hm
    generalize lineOf l = LL at *
    go_enter Tryz.func6, Tryz.ntmps6
    go_wp2
    rw [HL.out]
    refine bodyPost_ret (v := lnV .bad (.slice none 0 0)) (by simp [results, Tryz.results6, go_sem, lnV, LN.call, LN.bad]) rfl ?_
    refine ⟨_, rfl, World.ownsRow_nil _ _ _ _, ?_⟩
    repeat' (first | with_reducible refine Below.setCell ?_ ?_ _ | with_reducible refine Below.alloc ?_ ?_ _ | with_reducible refine Below.drew ?_ | with_reducible assumption | with_reducible exact Below.refl _ _ | (simp; done) | (simp; omega) | omega)
  have h6' : ¬ (60000 : Int) < (n : Int) := by omega
  obtain ⟨W0, hW0, HS⟩ := line_world w
  have HF := Lib.hid (cutFields_any g n c l m W0 (h.below HS.out.1) hn ((HS.out.1.cell (World.block_lt_of_cell? w _ hm)).trans hm))
  obtain ⟨q, hq⟩ : ∃ q, (cutL 32 l).all fdOk = q := ⟨_, rfl⟩
  have HLO : Hid (lineOf l = if q = true then parseOf (basOf (cutL 32 l)) else .bad) := line_cut (by omega) hq
  rw [hq] at HF
  generalize lineOf l = LL at *
  have hln := cut_len 32 l
  have hl1 : 1 ≤ (cutL 32 l).length := by
    rcases Nat.eq_zero_or_pos (cutL 32 l).length with h0 | h0
    · exact absurd (List.length_eq_zero_iff.1 h0) (cut_ne 32 l)
    · exact h0
  have HSZ : Hid (∀ i, i < (cutL 32 l).length → (sAt (basOf (cutL 32 l)) i).size ≤ 1048576) := by
    intro i hi
    rw [basOf_at, List.getElem?_eq_getElem hi]
    have := cut_piece 32 l _ (List.getElem_mem hi)
    show ((cutL 32 l)[i]).toArray.size ≤ _
    rw [List.size_toArray]
    omega
  have hbl : (basOf (cutL 32 l)).length = (cutL 32 l).length := by simp [basOf]
  rw [← hbl] at hln hl1 HSZ
  generalize basOf (cutL 32 l) = ss at *
  clear h hm hq hbl
  obtain ⟨s, r, rfl⟩ : ∃ s r, ss = s :: r := by
    match ss, hl1 with
    | [], h => simp at h
    | s :: r, _ => exact ⟨s, r, rfl⟩
  obtain ⟨k, hk⟩ : ∃ k, r.length = k := ⟨_, rfl⟩
  obtain ⟨M, hM⟩ : ∃ M, (s :: r).length = M := ⟨_, rfl⟩
  have HMK : Hid (M - 1 = k ∧ r.length = k ∧ (s :: r).length = M) := ⟨by rw [← hM, ← hk]; rfl, hk, hM⟩
  rw [hM] at hln hl1 HSZ
  have HFM : Hid (∀ w v, FRow w v (s :: r) → ∃ gf cv, v = .slice (some ⟨gf, 0, none⟩) M cv ∧ M ≤ cv ∧ cv ≤ maxLen ∧ ∀ i, i < M → w.cell? ⟨gf, i, none⟩ = some (.string (sAt (s :: r) i))) := by
    rintro w v ⟨a, cv, rfl, h | ⟨gf, rfl, h1, h2, h3⟩⟩
    · rw [hM] at h; omega
    · rw [hM] at h1 h3 ⊢
      exact ⟨gf, cv, rfl, h1, h2, h3⟩
  clear hM hk
  go_enter Tryz.func6, Tryz.ntmps6
  go_wp2_with fail
  refine HF.out.mono ?_
  rintro e w1 ⟨v, rfl, hfr, hb1⟩
  have hB1 := HS.out.1.trans (hb1.mono HS.out.1.size)
  have hblk := (hb1.block w.heap.size (by rw [HS.out.2.2]; omega)).trans HS.out.2.1
  have hw1 : w.heap.size + 1 ≤ w1.heap.size := by have := hb1.size; rw [HS.out.2.2] at this; exact this
  clear hb1 HF hW0 HS
  cases q
  case false =>
    obtain ⟨⟨x0, x1, x2, x3, x4, x5⟩, f0, f1, f2, f3, f4, f5⟩ := six_of hblk
    have HL : Hid (LL = .bad) := HLO.out
    clear hfr HLO hblk
    go_wp2
    rw [HL.out]
    refine bodyPost_ret (v := lnV .bad (.slice none 0 0)) (by simp [results, Tryz.results6, go_sem, x0, x1, x2, x3, x4, x5, lnV, LN.call, LN.bad]) rfl ?_
    refine ⟨_, rfl, World.ownsRow_nil _ _ _ _, ?_⟩
    repeat' (first | with_reducible refine Below.setCell ?_ ?_ _ | with_reducible refine Below.alloc ?_ ?_ _ | with_reducible refine Below.drew ?_ | with_reducible assumption | with_reducible exact Below.refl _ _ | (simp; done) | (simp; omega) | omega)
  have HLP : Hid (LL = parseOf (s :: r)) := HLO.out
  obtain ⟨gf, cv, rfl, hmc, hcx, hcell⟩ := HFM.out _ _ (hfr rfl)
  have hcm : cv ≤ 9223372036854775807 := by unfold maxLen at hcx; omega
  have HC1 := Lib.hid hcell
  have d0 : w1.cell? ⟨gf, 0, none⟩ = some (.string s) := hcell 0 (by omega)
  have hM0 : (0 : Int) < (M : Int) := by omega
  have hM0n : 0 < M := by omega
  have hM1 : (1 : Int) ≤ (M : Int) := by omega
  have hM2 : ¬ (M : Int) < 1 := by omega
  clear hfr HLO HFM hcell hcx
  go_wp2_with fail
  go_region_law (first
    | (go_simp; go_at_call 17; refine (parsers_any _).mono ?_; rintro e w2 ⟨rm, vWrite, vFill, vRead, vTrunc, vDel, vList, vSync, vClean, vStat, vMount, vArm, vCrash, vFlip, rfl, hMA, hP, hb2⟩; have hB2 : Below w.heap.size w w2 := hB1.drew.trans (hb2.mono hB1.size); have hblk2 := (hb2.block w.heap.size (by show _ < w1.heap.size; omega)).trans hblk; have hw2 : w.heap.size + 1 ≤ w2.heap.size := Nat.le_trans hw1 hb2.size; have HC2 : Hid (∀ i, i < M → w2.cell? ⟨gf, i, none⟩ = some (.string (sAt (s :: r) i))) := (fun i hi => (hb2.cell (World.block_lt_of_cell? w1 _ (HC1.out i hi))).trans (HC1.out i hi)); have d2 : w2.cell? ⟨gf, 0, none⟩ = some (.string s) := HC2.out 0 (by omega); obtain ⟨vv, bb, hlk, hD⟩ := look_line w2 rm s r vWrite vFill vRead vTrunc vDel vList vSync vClean vStat vMount vArm vCrash vFlip hMA hP; have HD := Lib.hid hD; clear hMA hP hb2 hD))
  all_goals
    obtain ⟨⟨x0, x1, x2, x3, x4, x5⟩, f0, f1, f2, f3, f4, f5⟩ := six_of hblk2
    have HR : Hid (SRow w2 (some ⟨gf, 1, none⟩) k r) := ⟨HMK.out.2.1, .inr ⟨gf, 1, rfl, fun i hi => by have := HC2.out (i + 1) (by have := HMK.out.1; omega); rw [show sAt (s :: r) (i + 1) = sAt r i from rfl, Nat.add_comm i 1] at this; exact this⟩⟩
    have HRN : Hid (M = 1 → SRow w2 (some ⟨gf, 0, none⟩) k r) := fun h => ⟨HMK.out.2.1, .inl (by have := HMK.out.1; omega)⟩
    have HFW : Hid (∀ a, SRow w2 a k r → FRw w2 a k (cv - 1) r) := fun a ha => ⟨ha, by have := HMK.out.1; omega, by omega, by have := HMK.out.1; omega, fun i hi => HSZ.out (i + 1) (by have := HMK.out.1; omega)⟩
    clear HC1 HC2 d0 HSZ hblk hlk
    rcases HD.out with ⟨rfl, hpo⟩ | ⟨rfl, f, hprs, hpo⟩
    · have HL : Hid (LL = .bad) := HLP.out.trans hpo
      clear HLP HD hpo hblk2 HR HRN HFW
      go_wp2
      rw [HL.out]
      refine bodyPost_ret (v := lnV .bad (.slice none 0 0)) (by simp [results, Tryz.results6, go_sem, x0, x1, x2, x3, x4, x5, lnV, LN.call, LN.bad]) rfl ?_
      refine ⟨_, rfl, World.ownsRow_nil _ _ _ _, ?_⟩
      repeat' (first | with_reducible refine Below.setCell ?_ ?_ _ | with_reducible refine Below.alloc ?_ ?_ _ | with_reducible refine Below.drew ?_ | with_reducible assumption | with_reducible exact Below.refl _ _ | (simp; done) | (simp; omega) | omega)
    have HL : Hid (LL = f r) := HLP.out.trans hpo
    obtain ⟨F, caps, rfl, hcall, hrun⟩ := hprs
    have HRU : Hid (∀ a, SRow w2 a k r → Calls Tryz.prog F (#[.slice a k (cv - 1)] ++ caps) w2 fun e w' => LAns w2 w' e (f r)) := fun a ha => hrun w2 (Below.refl _ _) a k (cv - 1) r (HFW.out a ha)
    have hk := HMK.out.1
    clear HLP HD hpo hrun HFW HMK
    generalize f r = ln at *
    have h3 : (M = 1 ∧ cv = 1) ∨ ¬ cv = 1 := by omega
    rcases h3 with ⟨e1, ec⟩ | ec
    case' inl =>
      have HSS := Lib.hid (HRU.out _ (HRN.out e1))
      subst ec
      clear e1 HRU HR HRN
      go_wp2_with fail
      refine HSS.out.mono ?_
    case' inr =>
      have HSS := Lib.hid (HRU.out _ HR.out)
      clear HRU HR HRN
      go_wp2_with fail
      refine HSS.out.mono ?_
    all_goals
      rintro e w3 ⟨vc, rfl, hown, hb3⟩
      have hB3 := hB2.trans (hb3.mono hB2.size)
      have hblk3 := (hb3.block w.heap.size (by omega)).trans hblk2
      have hw3 := Nat.le_trans hw2 hb3.size
      clear hb3 x0 x1 x2 x3 x4 x5 f0 f1 f2 f3 f4 f5 hblk2 d2
      obtain ⟨⟨x0, x1, x2, x3, x4, x5⟩, f0, f1, f2, f3, f4, f5⟩ := six_of hblk3
      clear hblk3
      unfold lnV
      obtain ⟨ac, cc, rfl⟩ := own_slice hown
      go_wp2
      rw [HL.out]
      refine bodyPost_ret (v := lnV ln (.slice ac ln.ns.length cc)) (by simp [results, Tryz.results6, go_sem, x0, x1, x2, x3, x4, x5, lnV]) rfl ?_
      refine ⟨_, rfl, own_mono (B := w2.heap.size) ?_ (by omega), ?_⟩
      · repeat' (first | with_reducible refine own_set ?_ _ ?_ | with_reducible refine own_alloc ?_ _ | with_reducible assumption | (simp; done) | (simp; omega) | omega)
      · repeat' (first | with_reducible refine Below.setCell ?_ ?_ _ | with_reducible refine Below.alloc ?_ ?_ _ | with_reducible refine Below.drew ?_ | with_reducible assumption | with_reducible exact Below.refl _ _ | (simp; done) | (simp; omega) | omega)
end Go.Proofs.YtfgfdjcgfbodfaaGreatDoor
