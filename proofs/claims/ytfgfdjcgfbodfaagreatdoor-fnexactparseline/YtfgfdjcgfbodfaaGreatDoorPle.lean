/-
  leadingNumbers and onlyNumbers.
-/
import Derived.Test.YtfgfdjcgfbodfaaGreatDoorPld
namespace Go.Proofs.YtfgfdjcgfbodfaaGreatDoor
open Go.RowKit
set_option linter.unusedSimpArgs false
set_option linter.unusedVariables false

theorem bytesWorld_bel (w : World) (e : TypeId) (t : ByteArray) : Below w.heap.size w (Lib.bytesWorld w e t) :=
  ⟨rfl, rfl, rfl, by rw [Lib.bytesWorld_size]; omega, fun j hj => Lib.bytesWorld_at_old w e t j hj⟩
theorem parseInt_any (s : ByteArray) (hs : s.size ≤ 1048576) (h : isNum s.data.toList = true) (w : World) :
    Calls Tryz.prog 50 #[.string s, .int .i64 10, .int .i64 64] w fun e w' => e = .returned (.tuple #[.int .i64 (numV s.data.toList), .nilIface]) ∧ Below w.heap.size w w' := by
  refine (strconv_ParseInt_10_at64_ok s (by omega) _ (parseInt_ok h) w).mono ?_
  rintro e w' ⟨rfl, rfl | ⟨t, rfl⟩⟩
  · exact ⟨rfl, Below.refl _ _⟩
  · exact ⟨rfl, bytesWorld_bel _ _ _⟩
theorem numV_range {l : List UInt8} (h : isNum l = true) : -1000000000 ≤ numV l ∧ numV l ≤ 1000000000 := by
  cases l with
  | nil => simp [isNum] at h
  | cons b r =>
    by_cases hb : b = 45
    · subst hb
      simp only [isNum, if_true, Bool.and_eq_true] at h
      obtain ⟨p1, p2, p3⟩ := posN_facts h.1
      have hv := natV_9 p3 p2
      rw [numV_neg]; omega
    · rw [isNum_ne hb] at h
      obtain ⟨p1, p2, p3⟩ := posN_facts h
      have hv := natV_9 p3 p2
      rw [numV_ne hb]; omega
theorem owns_below64 {w w' : World} {B n : Nat} {v : Value} {xs : List Value} (h : w.ownsRow B 2 1 v n xs) (hb : Below w.heap.size w w') : w'.ownsRow B 2 1 v n xs :=
  h.kept (row := none) ⟨hb.os, hb.tape, hb.output, hb.size, fun k hk _ => hb.block k hk⟩ (by cases hv : v.ownBlock <;> simp)

theorem one_i64 {w : World} {x : Int} {t : TypeId} : ∀ j u', [Value.int .i64 x][j]? = some u' → (w.alloc (.cells #[.int .i64 x] t)).cell? ((⟨w.heap.size, 0, none⟩ : Addr).add j) = some u' := by
  intro j u' hj
  match j, hj with
  | 0, hj => simp at hj; subst hj; simp [Addr.add]
theorem one_oneI (x : Int) : ∀ u ∈ [Value.int .i64 x], u.oneCell' = true := by intro u hu; simp at hu; subst hu; rfl

set_option maxHeartbeats 4000000 in
set_option maxRecDepth 100000 in
theorem leading_any (a b : Option Addr) (n c m cb : Nat) (ss : List ByteArray) (bs : List (Int × Int)) (w : World) (ha : SRow w a n ss) (hz : ∀ i, i < n → (sAt ss i).size ≤ 1048576) (hn : n ≤ 1048576) (hb : BRow w b m bs) (hm : m ≤ 100) :
    Calls Tryz.prog 44 #[.slice a n c, .slice b m cb] w fun e w' => ∃ v, e = .returned (.tuple #[v, .bool (leadOk bs ss)]) ∧ (leadOk bs ss = true → w'.ownsRow w.heap.size 2 1 v n (i64G (numsOf ss))) ∧ (leadOk bs ss = false → v = .slice none 0 0) ∧ Below w.heap.size w w' := by
  obtain ⟨i0, hi0, hz0, hz1, hz2⟩ := info_parts info2
  have HA := Lib.hid ha
  have HZ := Lib.hid hz
  have HB := Lib.hid hb
  clear ha hz hb
  by_cases h1 : n < m
  · have HF : Hid (leadOk bs ss = false) := by show _ = _; unfold leadOk; rw [HA.out.1, HB.out.1, decide_eq_false (p := m ≤ n) (by omega)]; rfl
    go_enter Tryz.func44, Tryz.ntmps44
    go_wp2
    go_ret2
    exact ⟨_, by rw [HF.out]; rfl, (fun h => by rw [HF.out] at h; cases h), (fun _ => rfl), Below.refl _ _⟩
  by_cases h2 : 400 < n
  · have HF : Hid (leadOk bs ss = false) := by show _ = _; unfold leadOk; rw [HA.out.1, decide_eq_false (p := n ≤ 400) (by omega)]; simp
    go_enter Tryz.func44, Tryz.ntmps44
    go_wp2
    go_ret2
    exact ⟨_, by rw [HF.out]; rfl, (fun h => by rw [HF.out] at h; cases h), (fun _ => rfl), Below.refl _ _⟩
  · have h1' : ¬ (n : Int) < (m : Int) := by omega
    have h2' : ¬ (400 : Int) < (n : Int) := by omega
    go_enter Tryz.func44, Tryz.ntmps44
    go_wp2_with fail
    go_loopw [6, 24] (fun v i wr => ∃ k : Nat, k ≤ n ∧ i = .int .i64 k ∧ Hid (wr.ownsRow w.heap.size 2 1 v k (i64G (numsOf (ss.take k))) ∧ (∀ i, i < k → fldOk bs ss i = true) ∧ Below w.heap.size w wr)) (fun _ i _ => n - (intOf i).toNat)
    case atStart => exact ⟨0, Nat.zero_le _, rfl, World.ownsRow_made w #[] 0 (Nat.le_refl _) (by unfold maxLen; omega) rfl, (fun i hi => by omega), (Below.refl _ _).alloc (Nat.le_refl _) _⟩
    case round =>
      obtain ⟨k, hk, rfl, HR⟩ := hrel
      have hwz := HR.out.2.2.size
      by_cases hlt : k < n
      · obtain ⟨g, off, rfl, hc⟩ := (HA.out.below HR.out.2.2).2.resolve_left (by omega)
        have c1 := hc k hlt
        have hlt' : (k : Int) < (n : Int) := by omega
        have h0' : (0 : Int) ≤ (k : Int) := by omega
        have hsz := HZ.out k hlt
        have hkl : k < ss.length := by rw [HA.out.1]; exact hlt
        have HKL := Lib.hid hkl
        have HNS := Lib.hid (numsOf_succ ss k hkl)
        clear hc hkl
        obtain ⟨sk, hsk⟩ : ∃ sk, sAt ss k = sk := ⟨_, rfl⟩
        rw [hsk] at c1 hsz HNS
        have HSK := Lib.hid hsk
        clear hsk
        go_wp2_with fail
        refine (isNumber_any sk hsz _).mono ?_
        rintro e w1 ⟨rfl, hb1⟩
        have HR1 : Hid (w1.ownsRow w.heap.size 2 1 u6 k (i64G (numsOf (ss.take k))) ∧ (∀ i, i < k → fldOk bs ss i = true) ∧ Below w.heap.size w w1) := ⟨owns_below64 HR.out.1 hb1, HR.out.2.1, HR.out.2.2.trans (hb1.mono hwz)⟩
        have hw1 : w.heap.size ≤ w1.heap.size := HR1.out.2.2.size
        clear hb1 c1 HR
        cases hnum : isNum sk.data.toList
        · have HF : Hid (leadOk bs ss = false) := lead_no k HKL.out (by unfold fldOk; rw [HSK.out, hnum]; rfl)
          go_wp2
          go_ret2
          exact ⟨_, by rw [HF.out]; rfl, (fun h => by rw [HF.out] at h; cases h), (fun _ => rfl), HR1.out.2.2⟩
        · have hnr := numV_range hnum
          have HFK : Hid (fldOk bs ss k = holdB bs k (numV sk.data.toList)) := by show _ = _; unfold fldOk; rw [HSK.out, hnum]; rfl
          have HC := Lib.hid (fun W => parseInt_any sk hsz hnum W)
          obtain ⟨x, hx⟩ : ∃ x, numV sk.data.toList = x := ⟨_, rfl⟩
          rw [hx] at hnr HFK HC HNS
          clear hx
          go_wp2_with fail
          refine (HC.out _).mono ?_
          rintro e w2 ⟨rfl, hb2⟩
          have HR2 : Hid (w2.ownsRow w.heap.size 2 1 u6 k (i64G (numsOf (ss.take k))) ∧ (∀ i, i < k → fldOk bs ss i = true) ∧ Below w.heap.size w w2) := ⟨owns_below64 HR1.out.1 hb2, HR1.out.2.1, HR1.out.2.2.trans (hb2.mono hw1)⟩
          clear hb2 HR1 HC
          by_cases hkm : k < m
          · obtain ⟨g', rfl, hcb⟩ := (HB.out.below HR2.out.2.2).2.resolve_left (by omega)
            obtain ⟨d1, d2⟩ := hcb k hkm
            have hkm' : (k : Int) < (m : Int) := by omega
            clear hcb
            go_wp2_with fail
            refine (hold_any _ _ _ _).mono ?_
            rintro e w3 ⟨rfl, hb3'⟩
            have own3 := owns_below64 HR2.out.1 hb3'
            have hb3 := HR2.out.2.2.trans (hb3'.mono HR2.out.2.2.size)
            have HPR := Lib.hid HR2.out.2.1
            have hw3 := hb3.size
            have HQ : Hid (holdB bs k x = (decide (bLo bs k ≤ x) && decide (x ≤ bHi bs k))) := by show _ = _; unfold holdB; rw [HB.out.1, decide_eq_false (p := m ≤ k) (by omega)]; rfl
            clear hb3' HR2 d1 d2
            generalize (decide (bLo bs k ≤ x) && decide (x ≤ bHi bs k)) = q at *
            cases q
            case false =>
              have HF : Hid (leadOk bs ss = false) := lead_no k HKL.out (by rw [HFK.out, HQ.out])
              have HB3 := Lib.hid hb3
              clear own3 hb3
              go_wp2
              go_ret2
              exact ⟨_, by rw [HF.out]; rfl, (fun h => by rw [HF.out] at h; cases h), (fun _ => rfl), HB3.out⟩
            have HOK : Hid (fldOk bs ss k = true) := by show _ = _; rw [HFK.out, HQ.out]
            go_wp2_with (at_builtin; refine wpList_append_own _ rfl _ _ 25 rfl w.heap.size 2 i0 (.int .i64 0) 1 8 Tryz.underlying25 hi0 hz0 hz1 hz2 rfl (by decide) _ _ _ rfl (own3.alloc _) ⟨w3.heap.size, 0, none⟩ 1 1 [.int .i64 x] rfl rfl one_i64 (one_oneI _) (by unfold maxLen; omega) (by omega) (by simp; omega) ?_)
            intro v4 w4 own4 hgrow4 _
            have HR4 : Hid (w4.ownsRow w.heap.size 2 1 v4 (k + 1) (i64G (numsOf (ss.take (k + 1)))) ∧ (∀ i, i < k + 1 → fldOk bs ss i = true) ∧ Below w.heap.size w w4) := by
              refine ⟨?_, fun i hi => ?_, (hb3.alloc hw3 _).grown hgrow4 (by simp; omega) (fun k hk => (own3.lt k hk).1)⟩
              · rw [HNS.out, i64G, List.map_append]; exact own4
              · by_cases e : i = k
                · rw [e]; exact HOK.out
                · exact HPR.out i (by omega)
            clear own3 own4 hgrow4 hb3
            go_wp2
            go_roundw
            case rel => exact ⟨k + 1, by omega, by go_num, HR4⟩
            case measure => simp [intOf]; omega
          · have hkm' : ¬ (k : Int) < (m : Int) := by omega
            have HOK : Hid (fldOk bs ss k = true) := by show _ = _; rw [HFK.out]; unfold holdB; rw [HB.out.1, decide_eq_true (p := m ≤ k) (by omega)]; rfl
            have own3 := HR2.out.1
            have hb3 := HR2.out.2.2
            have HPR := Lib.hid HR2.out.2.1
            have hw3 := hb3.size
            clear HR2
            go_wp2_with (at_builtin; refine wpList_append_own _ rfl _ _ 25 rfl w.heap.size 2 i0 (.int .i64 0) 1 8 Tryz.underlying25 hi0 hz0 hz1 hz2 rfl (by decide) _ _ _ rfl (own3.alloc _) ⟨w2.heap.size, 0, none⟩ 1 1 [.int .i64 x] rfl rfl one_i64 (one_oneI _) (by unfold maxLen; omega) (by omega) (by simp; omega) ?_)
            intro v4 w4 own4 hgrow4 _
            have HR4 : Hid (w4.ownsRow w.heap.size 2 1 v4 (k + 1) (i64G (numsOf (ss.take (k + 1)))) ∧ (∀ i, i < k + 1 → fldOk bs ss i = true) ∧ Below w.heap.size w w4) := by
              refine ⟨?_, fun i hi => ?_, (hb3.alloc hw3 _).grown hgrow4 (by simp; omega) (fun k hk => (own3.lt k hk).1)⟩
              · rw [HNS.out, i64G, List.map_append]; exact own4
              · by_cases e : i = k
                · rw [e]; exact HOK.out
                · exact HPR.out i (by omega)
            clear own3 own4 hgrow4 hb3
            go_wp2
            go_roundw
            case rel => exact ⟨k + 1, by omega, by go_num, HR4⟩
            case measure => simp [intOf]; omega
      · have HF : Hid (leadOk bs ss = true) := lead_yes (by rw [HA.out.1, HB.out.1]; omega) (by rw [HA.out.1]; omega) (fun i hi => HR.out.2.1 i (by rw [HA.out.1] at hi; omega))
        have HO : Hid (wr.ownsRow w.heap.size 2 1 u6 n (i64G (numsOf ss))) := by
          have h := HR.out.1
          obtain rfl : k = n := by omega
          rw [List.take_of_length_le (by rw [HA.out.1]; omega)] at h
          exact h
        have HB3 := Lib.hid HR.out.2.2
        clear HR
        go_wp2
        go_ret2
        exact ⟨_, by rw [HF.out]; rfl, (fun _ => HO.out), (fun h => by rw [HF.out] at h; cases h), HB3.out⟩
end Go.Proofs.YtfgfdjcgfbodfaaGreatDoor
