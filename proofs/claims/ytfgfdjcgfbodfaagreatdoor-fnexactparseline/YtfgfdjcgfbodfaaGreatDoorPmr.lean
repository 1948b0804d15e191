/-
  The program's table of parsers.
-/
import Derived.Test.YtfgfdjcgfbodfaaGreatDoorPmq
namespace Go.Proofs.YtfgfdjcgfbodfaaGreatDoor
open Go.RowKit
set_option linter.unusedSimpArgs false
set_option linter.unusedVariables false

set_option maxHeartbeats 4000000 in
set_option maxRecDepth 100000 in
theorem parsers_any (w : World) :
    Calls Tryz.prog 17 #[] w fun e w' => ∃ (r : Nat) (vWrite vFill vRead vTrunc vDel vList vSync vClean vStat vMount vArm vCrash vFlip : Value), e = .returned (.map (some r)) ∧ MAt w' r [(wWrite, vWrite), (wFill, vFill), (wRead, vRead), (wTrunc, vTrunc), (wDel, vDel), (wList, vList), (wSync, vSync), (wClean, vClean), (wStat, vStat), (wMount, vMount), (wArm, vArm), (wCrash, vCrash), (wFlip, vFlip)] ∧ (Prs w' vWrite writeOf ∧ Prs w' vFill fillOf ∧ Prs w' vRead (namedOf 2) ∧ Prs w' vTrunc truncOf ∧ Prs w' vDel (namedOf 4) ∧ Prs w' vList (bareOf ⟨1, 5, ⟨#[]⟩, ⟨#[]⟩, 0, []⟩) ∧ Prs w' vSync (bareOf ⟨1, 6, ⟨#[]⟩, ⟨#[]⟩, 0, []⟩) ∧ Prs w' vClean (bareOf ⟨1, 7, ⟨#[]⟩, ⟨#[]⟩, 0, []⟩) ∧ Prs w' vStat (bareOf ⟨1, 8, ⟨#[]⟩, ⟨#[]⟩, 0, []⟩) ∧ Prs w' vMount (bareOf ⟨2, 0, ⟨#[]⟩, ⟨#[]⟩, 0, []⟩) ∧ Prs w' vArm armOf ∧ Prs w' vCrash crashOf ∧ Prs w' vFlip flipOf) ∧ Below w.heap.size w w' := by
  obtain ⟨W0, m0, M0, B0⟩ := map_new w
  obtain ⟨W1, m1, M1, b1, k1⟩ := map_ins M0 wWrite (.func (.func 28) #[] #[]) (by simp [lookL])
  have B1 := B0.trans (b1 _ (Nat.le_refl _))
  obtain ⟨W2, m2, M2, b2, k2⟩ := map_ins M1 wFill (.func (.func 29) #[] #[]) (by simp [lookL])
  have B2 := B1.trans (b2 _ (Nat.le_refl _))
  go_enter Tryz.func17, Tryz.ntmps17
  go_wp2_with fail
  refine (named_any 2 _).mono ?_
  rintro e W3 ⟨pRead, rfl, hRead, b3⟩
  have M3 := M2.below b3 M2.lt
  have B3 := B2.trans (b3.mono B2.size)
  obtain ⟨W4, m4, M4, b4, k4⟩ := map_ins M3 wRead (.func (.func 42) #[] #[.pointer (some ⟨pRead, 0, none⟩)]) (by simp [lookL])
  have B4 := B3.trans (b4 _ (Nat.le_refl _))
  have hRead := kp_ins M3 k4 hRead
  obtain ⟨W5, m5, M5, b5, k5⟩ := map_ins M4 wTrunc (.func (.func 31) #[] #[]) (by simp [lookL])
  have B5 := B4.trans (b5 _ (Nat.le_refl _))
  have hRead := kp_ins M4 k5 hRead
  go_wp2_with fail
  refine (named_any 4 _).mono ?_
  rintro e W6 ⟨pDel, rfl, hDel, b6⟩
  have M6 := M5.below b6 M5.lt
  have B6 := B5.trans (b6.mono B5.size)
  have hRead := kp_call b6 hRead
  obtain ⟨W7, m7, M7, b7, k7⟩ := map_ins M6 wDel (.func (.func 42) #[] #[.pointer (some ⟨pDel, 0, none⟩)]) (by simp [lookL])
  have B7 := B6.trans (b7 _ (Nat.le_refl _))
  have hRead := kp_ins M6 k7 hRead
  have hDel := kp_ins M6 k7 hDel
  go_wp2_with fail
  refine (bareCall_any 5 _).mono ?_
  rintro e W8 ⟨pList, rfl, hList, b8⟩
  have M8 := M7.below b8 M7.lt
  have B8 := B7.trans (b8.mono B7.size)
  have hRead := kp_call b8 hRead
  have hDel := kp_call b8 hDel
  obtain ⟨W9, m9, M9, b9, k9⟩ := map_ins M8 wList (.func (.func 43) #[] #[.pointer (some ⟨pList, 0, none⟩)]) (by simp [lookL])
  have B9 := B8.trans (b9 _ (Nat.le_refl _))
  have hRead := kp_ins M8 k9 hRead
  have hDel := kp_ins M8 k9 hDel
  have hList := kp_ins M8 k9 hList
  go_wp2_with fail
  refine (bareCall_any 6 _).mono ?_
  rintro e W10 ⟨pSync, rfl, hSync, b10⟩
  have M10 := M9.below b10 M9.lt
  have B10 := B9.trans (b10.mono B9.size)
  have hRead := kp_call b10 hRead
  have hDel := kp_call b10 hDel
  have hList := kp_call b10 hList
  obtain ⟨W11, m11, M11, b11, k11⟩ := map_ins M10 wSync (.func (.func 43) #[] #[.pointer (some ⟨pSync, 0, none⟩)]) (by simp [lookL])
  have B11 := B10.trans (b11 _ (Nat.le_refl _))
  have hRead := kp_ins M10 k11 hRead
  have hDel := kp_ins M10 k11 hDel
  have hList := kp_ins M10 k11 hList
  have hSync := kp_ins M10 k11 hSync
  go_wp2_with fail
  refine (bareCall_any 7 _).mono ?_
  rintro e W12 ⟨pClean, rfl, hClean, b12⟩
  have M12 := M11.below b12 M11.lt
  have B12 := B11.trans (b12.mono B11.size)
  have hRead := kp_call b12 hRead
  have hDel := kp_call b12 hDel
  have hList := kp_call b12 hList
  have hSync := kp_call b12 hSync
  obtain ⟨W13, m13, M13, b13, k13⟩ := map_ins M12 wClean (.func (.func 43) #[] #[.pointer (some ⟨pClean, 0, none⟩)]) (by simp [lookL])
  have B13 := B12.trans (b13 _ (Nat.le_refl _))
  have hRead := kp_ins M12 k13 hRead
  have hDel := kp_ins M12 k13 hDel
  have hList := kp_ins M12 k13 hList
  have hSync := kp_ins M12 k13 hSync
  have hClean := kp_ins M12 k13 hClean
  go_wp2_with fail
  refine (bareCall_any 8 _).mono ?_
  rintro e W14 ⟨pStat, rfl, hStat, b14⟩
  have M14 := M13.below b14 M13.lt
  have B14 := B13.trans (b14.mono B13.size)
  have hRead := kp_call b14 hRead
  have hDel := kp_call b14 hDel
  have hList := kp_call b14 hList
  have hSync := kp_call b14 hSync
  have hClean := kp_call b14 hClean
  obtain ⟨W15, m15, M15, b15, k15⟩ := map_ins M14 wStat (.func (.func 43) #[] #[.pointer (some ⟨pStat, 0, none⟩)]) (by simp [lookL])
  have B15 := B14.trans (b15 _ (Nat.le_refl _))
  have hRead := kp_ins M14 k15 hRead
  have hDel := kp_ins M14 k15 hDel
  have hList := kp_ins M14 k15 hList
  have hSync := kp_ins M14 k15 hSync
  have hClean := kp_ins M14 k15 hClean
  have hStat := kp_ins M14 k15 hStat
  go_wp2_with fail
  refine (bareLine_any 2 0 _).mono ?_
  rintro e W16 ⟨pMount, rfl, hMount, b16⟩
  have M16 := M15.below b16 M15.lt
  have B16 := B15.trans (b16.mono B15.size)
  have hRead := kp_call b16 hRead
  have hDel := kp_call b16 hDel
  have hList := kp_call b16 hList
  have hSync := kp_call b16 hSync
  have hClean := kp_call b16 hClean
  have hStat := kp_call b16 hStat
  obtain ⟨W17, m17, M17, b17, k17⟩ := map_ins M16 wMount (.func (.func 43) #[] #[.pointer (some ⟨pMount, 0, none⟩)]) (by simp [lookL])
  have B17 := B16.trans (b17 _ (Nat.le_refl _))
  have hRead := kp_ins M16 k17 hRead
  have hDel := kp_ins M16 k17 hDel
  have hList := kp_ins M16 k17 hList
  have hSync := kp_ins M16 k17 hSync
  have hClean := kp_ins M16 k17 hClean
  have hStat := kp_ins M16 k17 hStat
  have hMount := kp_ins M16 k17 hMount
  obtain ⟨W18, m18, M18, b18, k18⟩ := map_ins M17 wArm (.func (.func 34) #[] #[]) (by simp [lookL])
  have B18 := B17.trans (b18 _ (Nat.le_refl _))
  have hRead := kp_ins M17 k18 hRead
  have hDel := kp_ins M17 k18 hDel
  have hList := kp_ins M17 k18 hList
  have hSync := kp_ins M17 k18 hSync
  have hClean := kp_ins M17 k18 hClean
  have hStat := kp_ins M17 k18 hStat
  have hMount := kp_ins M17 k18 hMount
  obtain ⟨W19, m19, M19, b19, k19⟩ := map_ins M18 wCrash (.func (.func 35) #[] #[]) (by simp [lookL])
  have B19 := B18.trans (b19 _ (Nat.le_refl _))
  have hRead := kp_ins M18 k19 hRead
  have hDel := kp_ins M18 k19 hDel
  have hList := kp_ins M18 k19 hList
  have hSync := kp_ins M18 k19 hSync
  have hClean := kp_ins M18 k19 hClean
  have hStat := kp_ins M18 k19 hStat
  have hMount := kp_ins M18 k19 hMount
  obtain ⟨W20, m20, M20, b20, k20⟩ := map_ins M19 wFlip (.func (.func 36) #[] #[]) (by simp [lookL])
  have B20 := B19.trans (b20 _ (Nat.le_refl _))
  have hRead := kp_ins M19 k20 hRead
  have hDel := kp_ins M19 k20 hDel
  have hList := kp_ins M19 k20 hList
  have hSync := kp_ins M19 k20 hSync
  have hClean := kp_ins M19 k20 hClean
  have hStat := kp_ins M19 k20 hStat
  have hMount := kp_ins M19 k20 hMount
  go_wp2
  go_ret
  exact ⟨_, _, _, _, _, _, _, _, _, _, _, _, _, _, rfl, by simpa using M20, ⟨prs_write _, prs_fill _, prs_named hRead, prs_trunc _, prs_named hDel, prs_bare hList, prs_bare hSync, prs_bare hClean, prs_bare hStat, prs_bare hMount, prs_arm _, prs_crash _, prs_flip _⟩, B20⟩
end Go.Proofs.YtfgfdjcgfbodfaaGreatDoor
