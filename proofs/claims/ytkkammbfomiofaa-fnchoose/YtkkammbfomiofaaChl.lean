/-
  FnChoose: the law's walk.
-/
import Derived.Test.YtkkammbfomiofaaCht
import Derived.Test.YtkkammbfomiofaaCnv
import Derived.Test.YtkkammbfomiofaaFreeS
import Derived.Test.YtkkammbfomiofaaPickV
import Derived.Test.YtkkammbfomiofaaFrc
import Derived.Deep.CutRange
import Derived.Deep.QuietTactic
import Derived.BigQuiet
namespace Go.Proofs.Ytkkammbfomiofaa
open Go.RowKit
set_option linter.unusedSimpArgs false
set_option linter.unusedVariables false

theorem Best.range {fit : Nat → Bool} {cs : List Int} {n : Nat} {v : Int} (h : Best fit cs n v) : -1 ≤ v ∧ v < (n : Int) := by
  rcases h with ⟨rfl, _⟩ | ⟨i, hi, rfl, _⟩ <;> omega
theorem Best.at_v {fit : Nat → Bool} {cs : List Int} {n : Nat} {v : Int} (h : Best fit cs n v) (hv : 0 ≤ v) : v.toNat < n ∧ fit v.toNat = true ∧ ∀ j, j < n → fit j = true → cs[v.toNat]?.getD 0 < cs[j]?.getD 0 ∨ (cs[v.toNat]?.getD 0 = cs[j]?.getD 0 ∧ v.toNat ≤ j) := by
  rcases h with ⟨rfl, _⟩ | ⟨i, hi, rfl, h1, h2⟩
  · omega
  · simp only [Int.toNat_natCast]; exact ⟨hi, h1, h2⟩
theorem Best.at_no {fit : Nat → Bool} {cs : List Int} {n : Nat} {v : Int} (h : Best fit cs n v) (hv : ¬ 0 ≤ v) : ∀ j, j < n → fit j = false := by
  rcases h with ⟨rfl, h1⟩ | ⟨i, hi, rfl, h1, h2⟩
  · exact h1
  · omega
theorem fitV_iff {cs : List Int} {act sb : Int} {i : Nat} : fitV cs act sb i = true ↔ (i : Int) ≠ act ∧ 1 ≤ cs[i]?.getD 0 ∧ cs[i]?.getD 0 < sb := by simp [fitV]
theorem fitF_iff {cs : List Int} {act : Int} {i : Nat} : fitF cs act i = true ↔ (i : Int) ≠ act ∧ cs[i]?.getD 0 = 0 := by simp [fitF]
theorem freeR_le (es : List (Int × Bool)) (n : Nat) (nn : Int) (h : n ≤ 1025) : (freeR es n nn).length ≤ 1025 := by
  have := freeL_len es n
  unfold freeR
  split
  · rw [List.length_take]; omega
  · simp
theorem lid_at {es : List (Int × Bool)} {n i m : Nat} (hi : i < n) (h0 : eA es i = 0) (hk : (freeL es i).length < m) : ((freeL es n).take m)[(freeL es i).length]?.getD 0 = (i : Int) + 1 := by
  obtain ⟨t, ht⟩ := freeL_prefix es (i + 1) n hi
  rw [List.getElem?_take, if_pos hk, ← ht, freeL_yes h0, List.append_assoc, List.getElem?_append_right (Nat.le_refl _), Nat.sub_self]
  rfl
set_option maxHeartbeats 8000000 in
set_option maxRecDepth 100000 in
theorem law_choose (a : Option Addr) (n ca : Nat) (xs : List Int) (w : World) (ha : IRow .u8 w a n xs) (hn : (n : Int) ≤ 9223372036854775807) (hx : BytD xs) :
    Calls Try.prog 5 #[.slice a n ca] w fun e w' => e = .returned (.bool true) ∧ Below w.heap.size w w' := by
  by_cases hbig : 1048576 < n
  · go_enter Try.func5, Try.ntmps5
    go_wp2
    go_ret
    exact ⟨rfl, Below.refl _ _⟩
  have HA : Hid (IRow .u8 w a n xs) := ha
  have HX : Hid (∀ i, i < n → 0 ≤ xs[i]?.getD 0 ∧ xs[i]?.getD 0 ≤ 255) := fun i hi => hx.at i (by rw [ha.1]; exact hi)
  clear ha hx
  go_enter Try.func5, Try.ntmps5
  go_wp2_with fail
  refine (drawPickVictim_any a n ca xs _ HA.out HX.out (by omega)).mono ?_
  rintro e w1 ⟨a2, n2, c2, cs, act, sb, rfl, hC, hn2, hb1⟩
  have HC1 : Hid (IRow .i64 w1 a2 n2 cs) := hC
  have HB1 : Hid (Below w.heap.size w w1) := hb1
  clear hC hb1
  go_wp2_with fail
  refine (pickVictim_impl a2 n2 c2 cs act sb _ HC1.out (by omega)).mono ?_
  rintro e w2 ⟨rfl, hb2⟩
  have HC2 : Hid (IRow .i64 w2 a2 n2 cs) := HC1.out.below hb2
  have HB2 : Hid (Below w.heap.size w w2) := HB1.out.trans (hb2.mono HB1.out.size)
  clear hb2 HC1 HB1
  go_wp2_with fail
  refine (freeSegment_impl a2 n2 c2 cs act _ HC2.out (by omega)).mono ?_
  rintro e w3 ⟨rfl, hb3⟩
  have HC3 : Hid (IRow .i64 w3 a2 n2 cs) := HC2.out.below hb3
  have HB3 : Hid (Below w.heap.size w w3) := HB2.out.trans (hb3.mono HB2.out.size)
  clear hb3 HC2 HB2
  have HV : Hid (Best (fitV cs act sb) cs n2 (vicN cs act sb n2)) := best_victim cs act sb n2
  have HF : Hid (Best (fitF cs act) cs n2 (freeN cs act n2)) := best_free cs act n2
  generalize vicN cs act sb n2 = v at *
  generalize freeN cs act n2 = f at *
  obtain ⟨v1, v2⟩ := HV.out.range
  obtain ⟨f1, f2⟩ := HF.out.range
  by_cases hv : 0 ≤ v
  · by_cases hf : 0 ≤ f
    · as_aux_lemma =>
        obtain ⟨g, off, rfl, hcells⟩ := HC3.out.2.resolve_left (by omega)
        have hcz : c2 = c2 := rfl
        obtain ⟨iv1, iv2, iv3⟩ := HV.out.at_v hv
        obtain ⟨jv1, jv2, jv3⟩ := fitV_iff.1 iv2
        have hva : (v == act) = false := by simp only [beq_eq_false_iff_ne, ne_eq]; omega
        have cvv := hcells v.toNat iv1
        generalize cs[v.toNat]?.getD 0 = cv at cvv jv2 jv3
        obtain ⟨if1, if2, if3⟩ := HF.out.at_v hf
        obtain ⟨jf1, jf2⟩ := fitF_iff.1 if2
        have hfa : (f == act) = false := by simp only [beq_eq_false_iff_ne, ne_eq]; omega
        have cff := hcells f.toNat if1
        rw [jf2] at cff
        clear hcells iv2 iv3 if2 if3 jf2
        go_wp2_with fail
        clear cvv jv2 jv3 jv1 hva cff jf1 hfa v1 f1
        go_loopw [8] (fun o wr => ∃ k : Nat, k ≤ n2 ∧ o = .int .i64 k ∧ Hid (Below w3.heap.size w3 wr)) (fun o _ => n2 - (intOf o).toNat)
        case atStart => exact ⟨0, Nat.zero_le _, rfl, Below.refl _ _⟩
        case round =>
          obtain ⟨k, hk, rfl, hbl⟩ := hrel
          by_cases hlt : k < n2
          · obtain ⟨g', off', e', hcells⟩ := (HC3.out.below hbl.out).2.resolve_left (by omega)
            injection e' with e'
            injection e' with e1 e2
            subst e1; subst e2
            have cx := hcells k hlt
            have cvv := hcells v.toNat iv1
            have HFV : Hid (∀ h1 : (k : Int) ≠ act, 1 ≤ cs[k]?.getD 0 → cs[k]?.getD 0 < sb → fitV cs act sb k = true) := fun h1 h2 h3 => fitV_iff.2 ⟨h1, h2, h3⟩
            have HFF : Hid (∀ h1 : (k : Int) ≠ act, cs[k]?.getD 0 = 0 → fitF cs act k = true) := fun h1 h2 => fitF_iff.2 ⟨h1, h2⟩
            have HVJ := Hid.out ((HV.out.at_v hv).2.2 k hlt)
            have HFJ : Hid (fitF cs act k = true → f.toNat ≤ k) := fun h => by
              rcases (HF.out.at_v hf).2.2 k hlt h with h9 | h9
              · have h8 := (fitF_iff.1 (HF.out.at_v hf).2.1).2; have h7 := (fitF_iff.1 h).2; omega
              · exact h9.2
            generalize cs[v.toNat]?.getD 0 = cv at cvv HVJ
            generalize cs[k]?.getD 0 = x at cx HFV HFF HVJ
            clear hcells
            by_cases p1 : (k : Int) = act
            · have p1' : ((k : Int) != act) = false := by simpa using p1
              clear p1
              go_wp2
              go_roundw
              case rel => exact ⟨k + 1, by omega, by go_num, hbl⟩
              case measure => simp [intOf]; omega
            have p1' : ((k : Int) != act) = true := by simpa using p1
            by_cases p2 : 1 ≤ x
            · have p5 : (x == 0) = false := by simp only [beq_eq_false_iff_ne, ne_eq]; omega
              by_cases p3 : x < sb
              · by_cases p4 : (k : Int) = v
                · have p4' : ((k : Int) != v) = false := by simpa using p4
                  clear p4 p1
                  go_wp2
                  go_roundw
                  case rel => exact ⟨k + 1, by omega, by go_num, hbl⟩
                  case measure => simp [intOf]; omega
                · have p4' : ((k : Int) != v) = true := by simpa using p4
                  have hv0 : ¬ v < 0 := by omega
                  rcases HVJ (HFV.out p1 p2 p3) with h9 | ⟨h9, h8⟩
                  · have p6 : (x == cv) = false := by simp only [beq_eq_false_iff_ne, ne_eq]; omega
                    have p7 : ¬ x < cv := by omega
                    clear p4 p1
                    go_wp2
                    go_quiet (fail)
                    go_wp2
                    go_roundw
                    case rel => exact ⟨k + 1, by omega, by go_num, (below_drewN hbl.out _)⟩
                    case measure => simp [intOf]; omega
                  · subst h9
                    have p7 : ¬ (k : Int) < v := by omega
                    clear p4 p1
                    go_wp2
                    go_quiet (fail)
                    go_wp2
                    go_roundw
                    case rel => exact ⟨k + 1, by omega, by go_num, (below_drewN hbl.out _)⟩
                    case measure => simp [intOf]; omega
              · clear p1
                go_wp2
                go_roundw
                case rel => exact ⟨k + 1, by omega, by go_num, hbl⟩
                case measure => simp [intOf]; omega
            · by_cases p5 : x = 0
              · have h7 := HFJ.out (HFF.out p1 p5)
                have p8 : ¬ (k : Int) < f := by omega
                have p9 : ¬ f < 0 := by omega
                subst p5
                clear p1
                go_wp2
                go_roundw
                case rel => exact ⟨k + 1, by omega, by go_num, hbl⟩
                case measure => simp [intOf]; omega
              · have p5' : (x == 0) = false := by simpa using p5
                clear p1 p5
                go_wp2
                go_roundw
                case rel => exact ⟨k + 1, by omega, by go_num, hbl⟩
                case measure => simp [intOf]; omega
          · have HBL : Hid (Below w.heap.size w wr) := HB3.out.trans (hbl.out.mono HB3.out.size)
            clear hbl
            go_wp2_with fail
            refine (drawFreeLids_any a n ca xs _ (HA.out.below HBL.out) HX.out (by omega)).mono ?_
            rintro e w4 ⟨a4, n4, c4, es, nn, rfl, hE, hn4, ⟨nn0, nn1⟩, hb4⟩
            have HE4 : Hid (ERead w4 a4 n4 es) := hE
            have HB4 : Hid (Below w.heap.size w w4) := HBL.out.trans (hb4.mono HBL.out.size)
            clear hE hb4 HBL
            go_wp2_with fail
            refine (freeLids_impl a4 n4 c4 es nn _ HE4.out (by omega)).mono ?_
            rintro e w5 ⟨r5, rfl, ho5, hb5⟩
            have HE5 : Hid (ERead w5 a4 n4 es) := HE4.out.below hb5
            have HB5 : Hid (Below w.heap.size w w5) := HB4.out.trans (hb5.mono HB4.out.size)
            obtain ⟨a5, c5, rfl, h5⟩ := owns_i64 ho5
            have hr5 : (freeR es n4 nn).length ≤ 1025 := freeR_le es n4 nn (by omega)
            obtain ⟨R, hR⟩ : ∃ R, freeR es n4 nn = R := ⟨_, rfl⟩
            rw [hR] at h5 hr5 ⊢
            obtain ⟨r, hr⟩ : ∃ r, R.length = r := ⟨_, rfl⟩
            rw [hr] at h5 hr5 ⊢
            have HL5 : Hid (IRow .i64 w5 a5 r R) := h5
            have HRE : Hid (freeR es n4 nn = R) := hR
            have HRL : Hid (R.length = r) := hr
            clear ho5 hb5 h5 HE4 HB4 hR hr
            go_wp2
            go_loop [12, 13] (fun q i => ∃ k : Nat, k ≤ n4 ∧ i = .int .i64 k ∧ q = .int .i64 ((freeL es k).length : Int)) (fun _ i => n4 - (intOf i).toNat)
            case atStart => exact ⟨0, Nat.zero_le _, rfl, rfl⟩
            case round =>
              obtain ⟨k, hk, rfl, rfl⟩ := hrel
              have hfl := freeL_len es k
              by_cases hlt : k < n4
              · obtain ⟨g4, off4, rfl, hcells⟩ := HE5.out.2.resolve_left (by omega)
                have cx := (hcells k hlt).1
                have HY : Hid (eA es k = 0 → freeL es (k + 1) = freeL es k ++ [(k : Int) + 1]) := fun h => freeL_yes h
                have HN : Hid (¬ eA es k = 0 → freeL es (k + 1) = freeL es k) := fun h => freeL_no h
                generalize eA es k = x at cx HY HN
                clear hcells
                by_cases p5 : x = 0
                · have HY' : Hid (((freeL es (k + 1)).length : Int) = (freeL es k).length + 1) := by show _ = _; rw [HY.out p5]; simp
                  subst p5
                  go_wp2
                  go_round
                  case rel => exact ⟨k + 1, by omega, by go_num, by rw [HY'.out]⟩
                  case measure => simp [intOf]; omega
                · have p5' : (x == 0) = false := by simpa using p5
                  have HN' : Hid (freeL es (k + 1) = freeL es k) := HN.out p5
                  clear p5
                  go_wp2
                  go_round
                  case rel => exact ⟨k + 1, by omega, by go_num, by rw [HN'.out]⟩
                  case measure => simp [intOf]; omega
              · obtain rfl : k = n4 := by omega
                by_cases q1 : nn < 0
                · obtain rfl : r = 0 := by have h1 := HRL.out; have h2 := HRE.out; rw [freeR_neg q1] at h2; subst h2; exact h1.symm
                  go_wp2
                  go_ret
                  exact ⟨rfl, HB5.out⟩
                by_cases q2 : ((freeL es k).length : Int) < nn
                · obtain rfl : r = 0 := by have h1 := HRL.out; have h2 := HRE.out; rw [show freeR es k nn = [] from if_neg (by omega)] at h2; subst h2; exact h1.symm
                  go_wp2
                  go_ret
                  exact ⟨rfl, HB5.out⟩
                have HRT : Hid (freeR es k nn = (freeL es k).take nn.toNat) := if_pos (by omega)
                obtain rfl : nn = (r : Int) := by have h1 := HRL.out; have h2 := HRE.out; rw [HRT.out] at h2; subst h2; rw [List.length_take] at h1; omega
                have HLA : Hid (∀ i, i < k → eA es i = 0 → (freeL es i).length < r → R[(freeL es i).length]?.getD 0 = (i : Int) + 1) := fun i hi h0 hr => by
                  rw [← HRE.out, HRT.out]
                  exact lid_at hi h0 (by simpa using hr)
                have hfl9 := hfl
                clear HRE HRT
                go_wp2
                go_loop [14, 15] (fun kk i => ∃ j : Nat, j ≤ k ∧ i = .int .i64 j ∧ kk = .int .i64 ((freeL es j).length : Int) ∧ (freeL es j).length ≤ r) (fun _ i => k - (intOf i).toNat)
                case atStart => exact ⟨0, Nat.zero_le _, rfl, rfl, Nat.zero_le _⟩
                case round =>
                  obtain ⟨j, hj, rfl, rfl, hjr⟩ := hrel
                  by_cases hlt3 : j < k
                  · by_cases hlk : (freeL es j).length < r
                    · obtain ⟨g4, off4, rfl, hcells⟩ := HE5.out.2.resolve_left (by omega)
                      obtain ⟨g5, off5, rfl, hcells5⟩ := HL5.out.2.resolve_left (by omega)
                      have cx := (hcells j hlt3).1
                      have cl := hcells5 _ hlk
                      have HY : Hid (eA es j = 0 → freeL es (j + 1) = freeL es j ++ [(j : Int) + 1]) := fun h => freeL_yes h
                      have HN : Hid (¬ eA es j = 0 → freeL es (j + 1) = freeL es j) := fun h => freeL_no h
                      have HLJ := Hid.out (HLA.out j hlt3)
                      clear hcells hcells5
                      by_cases p5 : eA es j = 0
                      · have HY' : Hid ((freeL es (j + 1)).length = (freeL es j).length + 1) := by show _ = _; rw [HY.out p5]; simp
                        rw [HLJ p5 hlk] at cl
                        rw [p5] at cx
                        generalize (freeL es j).length = Kj at *
                        clear p5 HY HN HLJ
                        go_wp2
                        go_round
                        case rel => exact ⟨j + 1, by omega, by go_num, by rw [HY'.out]; go_num, by rw [HY'.out]; omega⟩
                        case measure => simp [intOf]; omega
                      · have HN' : Hid (freeL es (j + 1) = freeL es j) := HN.out p5
                        generalize eA es j = x at cx p5
                        have p5' : (x == 0) = false := by simpa using p5
                        clear p5 HY HN HLJ cl
                        go_wp2
                        go_round
                        case rel => exact ⟨j + 1, by omega, by go_num, by rw [HN'.out], by rw [HN'.out]; exact hjr⟩
                        case measure => simp [intOf]; omega
                    · go_wp2
                      go_ret
                      exact ⟨rfl, HB5.out⟩
                  · go_wp2
                    go_ret
                    exact ⟨rfl, HB5.out⟩
    · as_aux_lemma =>
        obtain ⟨g, off, rfl, hcells⟩ := HC3.out.2.resolve_left (by omega)
        have hcz : c2 = c2 := rfl
        obtain ⟨iv1, iv2, iv3⟩ := HV.out.at_v hv
        obtain ⟨jv1, jv2, jv3⟩ := fitV_iff.1 iv2
        have hva : (v == act) = false := by simp only [beq_eq_false_iff_ne, ne_eq]; omega
        have cvv := hcells v.toNat iv1
        generalize cs[v.toNat]?.getD 0 = cv at cvv jv2 jv3
        clear hcells iv2 iv3
        go_wp2_with fail
        clear cvv jv2 jv3 jv1 hva v1 f1
        go_loopw [8] (fun o wr => ∃ k : Nat, k ≤ n2 ∧ o = .int .i64 k ∧ Hid (Below w3.heap.size w3 wr)) (fun o _ => n2 - (intOf o).toNat)
        case atStart => exact ⟨0, Nat.zero_le _, rfl, Below.refl _ _⟩
        case round =>
          obtain ⟨k, hk, rfl, hbl⟩ := hrel
          by_cases hlt : k < n2
          · obtain ⟨g', off', e', hcells⟩ := (HC3.out.below hbl.out).2.resolve_left (by omega)
            injection e' with e'
            injection e' with e1 e2
            subst e1; subst e2
            have cx := hcells k hlt
            have cvv := hcells v.toNat iv1
            have HFV : Hid (∀ h1 : (k : Int) ≠ act, 1 ≤ cs[k]?.getD 0 → cs[k]?.getD 0 < sb → fitV cs act sb k = true) := fun h1 h2 h3 => fitV_iff.2 ⟨h1, h2, h3⟩
            have HFF : Hid (∀ h1 : (k : Int) ≠ act, cs[k]?.getD 0 = 0 → fitF cs act k = true) := fun h1 h2 => fitF_iff.2 ⟨h1, h2⟩
            have HVJ := Hid.out ((HV.out.at_v hv).2.2 k hlt)
            have HFJ := Hid.out (HF.out.at_no (by omega) k hlt)
            generalize cs[v.toNat]?.getD 0 = cv at cvv HVJ
            generalize cs[k]?.getD 0 = x at cx HFV HFF HVJ
            clear hcells
            by_cases p1 : (k : Int) = act
            · have p1' : ((k : Int) != act) = false := by simpa using p1
              clear p1
              go_wp2
              go_roundw
              case rel => exact ⟨k + 1, by omega, by go_num, hbl⟩
              case measure => simp [intOf]; omega
            have p1' : ((k : Int) != act) = true := by simpa using p1
            by_cases p2 : 1 ≤ x
            · have p5 : (x == 0) = false := by simp only [beq_eq_false_iff_ne, ne_eq]; omega
              by_cases p3 : x < sb
              · by_cases p4 : (k : Int) = v
                · have p4' : ((k : Int) != v) = false := by simpa using p4
                  clear p4 p1
                  go_wp2
                  go_roundw
                  case rel => exact ⟨k + 1, by omega, by go_num, hbl⟩
                  case measure => simp [intOf]; omega
                · have p4' : ((k : Int) != v) = true := by simpa using p4
                  have hv0 : ¬ v < 0 := by omega
                  rcases HVJ (HFV.out p1 p2 p3) with h9 | ⟨h9, h8⟩
                  · have p6 : (x == cv) = false := by simp only [beq_eq_false_iff_ne, ne_eq]; omega
                    have p7 : ¬ x < cv := by omega
                    clear p4 p1
                    go_wp2
                    go_quiet (fail)
                    go_wp2
                    go_roundw
                    case rel => exact ⟨k + 1, by omega, by go_num, (below_drewN hbl.out _)⟩
                    case measure => simp [intOf]; omega
                  · subst h9
                    have p7 : ¬ (k : Int) < v := by omega
                    clear p4 p1
                    go_wp2
                    go_quiet (fail)
                    go_wp2
                    go_roundw
                    case rel => exact ⟨k + 1, by omega, by go_num, (below_drewN hbl.out _)⟩
                    case measure => simp [intOf]; omega
              · clear p1
                go_wp2
                go_roundw
                case rel => exact ⟨k + 1, by omega, by go_num, hbl⟩
                case measure => simp [intOf]; omega
            · by_cases p5 : x = 0
              · have := HFF.out p1 p5
                rw [HFJ] at this
                cases this
              · have p5' : (x == 0) = false := by simpa using p5
                clear p1 p5
                go_wp2
                go_roundw
                case rel => exact ⟨k + 1, by omega, by go_num, hbl⟩
                case measure => simp [intOf]; omega
          · have HBL : Hid (Below w.heap.size w wr) := HB3.out.trans (hbl.out.mono HB3.out.size)
            clear hbl
            go_wp2_with fail
            refine (drawFreeLids_any a n ca xs _ (HA.out.below HBL.out) HX.out (by omega)).mono ?_
            rintro e w4 ⟨a4, n4, c4, es, nn, rfl, hE, hn4, ⟨nn0, nn1⟩, hb4⟩
            have HE4 : Hid (ERead w4 a4 n4 es) := hE
            have HB4 : Hid (Below w.heap.size w w4) := HBL.out.trans (hb4.mono HBL.out.size)
            clear hE hb4 HBL
            go_wp2_with fail
            refine (freeLids_impl a4 n4 c4 es nn _ HE4.out (by omega)).mono ?_
            rintro e w5 ⟨r5, rfl, ho5, hb5⟩
            have HE5 : Hid (ERead w5 a4 n4 es) := HE4.out.below hb5
            have HB5 : Hid (Below w.heap.size w w5) := HB4.out.trans (hb5.mono HB4.out.size)
            obtain ⟨a5, c5, rfl, h5⟩ := owns_i64 ho5
            have hr5 : (freeR es n4 nn).length ≤ 1025 := freeR_le es n4 nn (by omega)
            obtain ⟨R, hR⟩ : ∃ R, freeR es n4 nn = R := ⟨_, rfl⟩
            rw [hR] at h5 hr5 ⊢
            obtain ⟨r, hr⟩ : ∃ r, R.length = r := ⟨_, rfl⟩
            rw [hr] at h5 hr5 ⊢
            have HL5 : Hid (IRow .i64 w5 a5 r R) := h5
            have HRE : Hid (freeR es n4 nn = R) := hR
            have HRL : Hid (R.length = r) := hr
            clear ho5 hb5 h5 HE4 HB4 hR hr
            go_wp2
            go_loop [12, 13] (fun q i => ∃ k : Nat, k ≤ n4 ∧ i = .int .i64 k ∧ q = .int .i64 ((freeL es k).length : Int)) (fun _ i => n4 - (intOf i).toNat)
            case atStart => exact ⟨0, Nat.zero_le _, rfl, rfl⟩
            case round =>
              obtain ⟨k, hk, rfl, rfl⟩ := hrel
              have hfl := freeL_len es k
              by_cases hlt : k < n4
              · obtain ⟨g4, off4, rfl, hcells⟩ := HE5.out.2.resolve_left (by omega)
                have cx := (hcells k hlt).1
                have HY : Hid (eA es k = 0 → freeL es (k + 1) = freeL es k ++ [(k : Int) + 1]) := fun h => freeL_yes h
                have HN : Hid (¬ eA es k = 0 → freeL es (k + 1) = freeL es k) := fun h => freeL_no h
                generalize eA es k = x at cx HY HN
                clear hcells
                by_cases p5 : x = 0
                · have HY' : Hid (((freeL es (k + 1)).length : Int) = (freeL es k).length + 1) := by show _ = _; rw [HY.out p5]; simp
                  subst p5
                  go_wp2
                  go_round
                  case rel => exact ⟨k + 1, by omega, by go_num, by rw [HY'.out]⟩
                  case measure => simp [intOf]; omega
                · have p5' : (x == 0) = false := by simpa using p5
                  have HN' : Hid (freeL es (k + 1) = freeL es k) := HN.out p5
                  clear p5
                  go_wp2
                  go_round
                  case rel => exact ⟨k + 1, by omega, by go_num, by rw [HN'.out]⟩
                  case measure => simp [intOf]; omega
              · obtain rfl : k = n4 := by omega
                by_cases q1 : nn < 0
                · obtain rfl : r = 0 := by have h1 := HRL.out; have h2 := HRE.out; rw [freeR_neg q1] at h2; subst h2; exact h1.symm
                  go_wp2
                  go_ret
                  exact ⟨rfl, HB5.out⟩
                by_cases q2 : ((freeL es k).length : Int) < nn
                · obtain rfl : r = 0 := by have h1 := HRL.out; have h2 := HRE.out; rw [show freeR es k nn = [] from if_neg (by omega)] at h2; subst h2; exact h1.symm
                  go_wp2
                  go_ret
                  exact ⟨rfl, HB5.out⟩
                have HRT : Hid (freeR es k nn = (freeL es k).take nn.toNat) := if_pos (by omega)
                obtain rfl : nn = (r : Int) := by have h1 := HRL.out; have h2 := HRE.out; rw [HRT.out] at h2; subst h2; rw [List.length_take] at h1; omega
                have HLA : Hid (∀ i, i < k → eA es i = 0 → (freeL es i).length < r → R[(freeL es i).length]?.getD 0 = (i : Int) + 1) := fun i hi h0 hr => by
                  rw [← HRE.out, HRT.out]
                  exact lid_at hi h0 (by simpa using hr)
                have hfl9 := hfl
                clear HRE HRT
                go_wp2
                go_loop [14, 15] (fun kk i => ∃ j : Nat, j ≤ k ∧ i = .int .i64 j ∧ kk = .int .i64 ((freeL es j).length : Int) ∧ (freeL es j).length ≤ r) (fun _ i => k - (intOf i).toNat)
                case atStart => exact ⟨0, Nat.zero_le _, rfl, rfl, Nat.zero_le _⟩
                case round =>
                  obtain ⟨j, hj, rfl, rfl, hjr⟩ := hrel
                  by_cases hlt3 : j < k
                  · by_cases hlk : (freeL es j).length < r
                    · obtain ⟨g4, off4, rfl, hcells⟩ := HE5.out.2.resolve_left (by omega)
                      obtain ⟨g5, off5, rfl, hcells5⟩ := HL5.out.2.resolve_left (by omega)
                      have cx := (hcells j hlt3).1
                      have cl := hcells5 _ hlk
                      have HY : Hid (eA es j = 0 → freeL es (j + 1) = freeL es j ++ [(j : Int) + 1]) := fun h => freeL_yes h
                      have HN : Hid (¬ eA es j = 0 → freeL es (j + 1) = freeL es j) := fun h => freeL_no h
                      have HLJ := Hid.out (HLA.out j hlt3)
                      clear hcells hcells5
                      by_cases p5 : eA es j = 0
                      · have HY' : Hid ((freeL es (j + 1)).length = (freeL es j).length + 1) := by show _ = _; rw [HY.out p5]; simp
                        rw [HLJ p5 hlk] at cl
                        rw [p5] at cx
                        generalize (freeL es j).length = Kj at *
                        clear p5 HY HN HLJ
                        go_wp2
                        go_round
                        case rel => exact ⟨j + 1, by omega, by go_num, by rw [HY'.out]; go_num, by rw [HY'.out]; omega⟩
                        case measure => simp [intOf]; omega
                      · have HN' : Hid (freeL es (j + 1) = freeL es j) := HN.out p5
                        generalize eA es j = x at cx p5
                        have p5' : (x == 0) = false := by simpa using p5
                        clear p5 HY HN HLJ cl
                        go_wp2
                        go_round
                        case rel => exact ⟨j + 1, by omega, by go_num, by rw [HN'.out], by rw [HN'.out]; exact hjr⟩
                        case measure => simp [intOf]; omega
                    · go_wp2
                      go_ret
                      exact ⟨rfl, HB5.out⟩
                  · go_wp2
                    go_ret
                    exact ⟨rfl, HB5.out⟩
  · by_cases hf : 0 ≤ f
    · as_aux_lemma =>
        obtain ⟨g, off, rfl, hcells⟩ := HC3.out.2.resolve_left (by omega)
        have hcz : c2 = c2 := rfl
        obtain ⟨if1, if2, if3⟩ := HF.out.at_v hf
        obtain ⟨jf1, jf2⟩ := fitF_iff.1 if2
        have hfa : (f == act) = false := by simp only [beq_eq_false_iff_ne, ne_eq]; omega
        have cff := hcells f.toNat if1
        rw [jf2] at cff
        clear hcells if2 if3 jf2
        go_wp2_with fail
        clear cff jf1 hfa v1 f1
        go_loopw [8] (fun o wr => ∃ k : Nat, k ≤ n2 ∧ o = .int .i64 k ∧ Hid (Below w3.heap.size w3 wr)) (fun o _ => n2 - (intOf o).toNat)
        case atStart => exact ⟨0, Nat.zero_le _, rfl, Below.refl _ _⟩
        case round =>
          obtain ⟨k, hk, rfl, hbl⟩ := hrel
          by_cases hlt : k < n2
          · obtain ⟨g', off', e', hcells⟩ := (HC3.out.below hbl.out).2.resolve_left (by omega)
            injection e' with e'
            injection e' with e1 e2
            subst e1; subst e2
            have cx := hcells k hlt
            have HFV : Hid (∀ h1 : (k : Int) ≠ act, 1 ≤ cs[k]?.getD 0 → cs[k]?.getD 0 < sb → fitV cs act sb k = true) := fun h1 h2 h3 => fitV_iff.2 ⟨h1, h2, h3⟩
            have HFF : Hid (∀ h1 : (k : Int) ≠ act, cs[k]?.getD 0 = 0 → fitF cs act k = true) := fun h1 h2 => fitF_iff.2 ⟨h1, h2⟩
            have HVJ := Hid.out (HV.out.at_no (by omega) k hlt)
            have HFJ : Hid (fitF cs act k = true → f.toNat ≤ k) := fun h => by
              rcases (HF.out.at_v hf).2.2 k hlt h with h9 | h9
              · have h8 := (fitF_iff.1 (HF.out.at_v hf).2.1).2; have h7 := (fitF_iff.1 h).2; omega
              · exact h9.2
            generalize cs[k]?.getD 0 = x at cx HFV HFF HVJ
            clear hcells
            by_cases p1 : (k : Int) = act
            · have p1' : ((k : Int) != act) = false := by simpa using p1
              clear p1
              go_wp2
              go_roundw
              case rel => exact ⟨k + 1, by omega, by go_num, hbl⟩
              case measure => simp [intOf]; omega
            have p1' : ((k : Int) != act) = true := by simpa using p1
            by_cases p2 : 1 ≤ x
            · have p5 : (x == 0) = false := by simp only [beq_eq_false_iff_ne, ne_eq]; omega
              by_cases p3 : x < sb
              · by_cases p4 : (k : Int) = v
                · have p4' : ((k : Int) != v) = false := by simpa using p4
                  clear p4 p1
                  go_wp2
                  go_roundw
                  case rel => exact ⟨k + 1, by omega, by go_num, hbl⟩
                  case measure => simp [intOf]; omega
                · have := HFV.out p1 p2 p3
                  rw [HVJ] at this
                  cases this
              · clear p1
                go_wp2
                go_roundw
                case rel => exact ⟨k + 1, by omega, by go_num, hbl⟩
                case measure => simp [intOf]; omega
            · by_cases p5 : x = 0
              · have h7 := HFJ.out (HFF.out p1 p5)
                have p8 : ¬ (k : Int) < f := by omega
                have p9 : ¬ f < 0 := by omega
                subst p5
                clear p1
                go_wp2
                go_roundw
                case rel => exact ⟨k + 1, by omega, by go_num, hbl⟩
                case measure => simp [intOf]; omega
              · have p5' : (x == 0) = false := by simpa using p5
                clear p1 p5
                go_wp2
                go_roundw
                case rel => exact ⟨k + 1, by omega, by go_num, hbl⟩
                case measure => simp [intOf]; omega
          · have HBL : Hid (Below w.heap.size w wr) := HB3.out.trans (hbl.out.mono HB3.out.size)
            clear hbl
            go_wp2_with fail
            refine (drawFreeLids_any a n ca xs _ (HA.out.below HBL.out) HX.out (by omega)).mono ?_
            rintro e w4 ⟨a4, n4, c4, es, nn, rfl, hE, hn4, ⟨nn0, nn1⟩, hb4⟩
            have HE4 : Hid (ERead w4 a4 n4 es) := hE
            have HB4 : Hid (Below w.heap.size w w4) := HBL.out.trans (hb4.mono HBL.out.size)
            clear hE hb4 HBL
            go_wp2_with fail
            refine (freeLids_impl a4 n4 c4 es nn _ HE4.out (by omega)).mono ?_
            rintro e w5 ⟨r5, rfl, ho5, hb5⟩
            have HE5 : Hid (ERead w5 a4 n4 es) := HE4.out.below hb5
            have HB5 : Hid (Below w.heap.size w w5) := HB4.out.trans (hb5.mono HB4.out.size)
            obtain ⟨a5, c5, rfl, h5⟩ := owns_i64 ho5
            have hr5 : (freeR es n4 nn).length ≤ 1025 := freeR_le es n4 nn (by omega)
            obtain ⟨R, hR⟩ : ∃ R, freeR es n4 nn = R := ⟨_, rfl⟩
            rw [hR] at h5 hr5 ⊢
            obtain ⟨r, hr⟩ : ∃ r, R.length = r := ⟨_, rfl⟩
            rw [hr] at h5 hr5 ⊢
            have HL5 : Hid (IRow .i64 w5 a5 r R) := h5
            have HRE : Hid (freeR es n4 nn = R) := hR
            have HRL : Hid (R.length = r) := hr
            clear ho5 hb5 h5 HE4 HB4 hR hr
            go_wp2
            go_loop [12, 13] (fun q i => ∃ k : Nat, k ≤ n4 ∧ i = .int .i64 k ∧ q = .int .i64 ((freeL es k).length : Int)) (fun _ i => n4 - (intOf i).toNat)
            case atStart => exact ⟨0, Nat.zero_le _, rfl, rfl⟩
            case round =>
              obtain ⟨k, hk, rfl, rfl⟩ := hrel
              have hfl := freeL_len es k
              by_cases hlt : k < n4
              · obtain ⟨g4, off4, rfl, hcells⟩ := HE5.out.2.resolve_left (by omega)
                have cx := (hcells k hlt).1
                have HY : Hid (eA es k = 0 → freeL es (k + 1) = freeL es k ++ [(k : Int) + 1]) := fun h => freeL_yes h
                have HN : Hid (¬ eA es k = 0 → freeL es (k + 1) = freeL es k) := fun h => freeL_no h
                generalize eA es k = x at cx HY HN
                clear hcells
                by_cases p5 : x = 0
                · have HY' : Hid (((freeL es (k + 1)).length : Int) = (freeL es k).length + 1) := by show _ = _; rw [HY.out p5]; simp
                  subst p5
                  go_wp2
                  go_round
                  case rel => exact ⟨k + 1, by omega, by go_num, by rw [HY'.out]⟩
                  case measure => simp [intOf]; omega
                · have p5' : (x == 0) = false := by simpa using p5
                  have HN' : Hid (freeL es (k + 1) = freeL es k) := HN.out p5
                  clear p5
                  go_wp2
                  go_round
                  case rel => exact ⟨k + 1, by omega, by go_num, by rw [HN'.out]⟩
                  case measure => simp [intOf]; omega
              · obtain rfl : k = n4 := by omega
                by_cases q1 : nn < 0
                · obtain rfl : r = 0 := by have h1 := HRL.out; have h2 := HRE.out; rw [freeR_neg q1] at h2; subst h2; exact h1.symm
                  go_wp2
                  go_ret
                  exact ⟨rfl, HB5.out⟩
                by_cases q2 : ((freeL es k).length : Int) < nn
                · obtain rfl : r = 0 := by have h1 := HRL.out; have h2 := HRE.out; rw [show freeR es k nn = [] from if_neg (by omega)] at h2; subst h2; exact h1.symm
                  go_wp2
                  go_ret
                  exact ⟨rfl, HB5.out⟩
                have HRT : Hid (freeR es k nn = (freeL es k).take nn.toNat) := if_pos (by omega)
                obtain rfl : nn = (r : Int) := by have h1 := HRL.out; have h2 := HRE.out; rw [HRT.out] at h2; subst h2; rw [List.length_take] at h1; omega
                have HLA : Hid (∀ i, i < k → eA es i = 0 → (freeL es i).length < r → R[(freeL es i).length]?.getD 0 = (i : Int) + 1) := fun i hi h0 hr => by
                  rw [← HRE.out, HRT.out]
                  exact lid_at hi h0 (by simpa using hr)
                have hfl9 := hfl
                clear HRE HRT
                go_wp2
                go_loop [14, 15] (fun kk i => ∃ j : Nat, j ≤ k ∧ i = .int .i64 j ∧ kk = .int .i64 ((freeL es j).length : Int) ∧ (freeL es j).length ≤ r) (fun _ i => k - (intOf i).toNat)
                case atStart => exact ⟨0, Nat.zero_le _, rfl, rfl, Nat.zero_le _⟩
                case round =>
                  obtain ⟨j, hj, rfl, rfl, hjr⟩ := hrel
                  by_cases hlt3 : j < k
                  · by_cases hlk : (freeL es j).length < r
                    · obtain ⟨g4, off4, rfl, hcells⟩ := HE5.out.2.resolve_left (by omega)
                      obtain ⟨g5, off5, rfl, hcells5⟩ := HL5.out.2.resolve_left (by omega)
                      have cx := (hcells j hlt3).1
                      have cl := hcells5 _ hlk
                      have HY : Hid (eA es j = 0 → freeL es (j + 1) = freeL es j ++ [(j : Int) + 1]) := fun h => freeL_yes h
                      have HN : Hid (¬ eA es j = 0 → freeL es (j + 1) = freeL es j) := fun h => freeL_no h
                      have HLJ := Hid.out (HLA.out j hlt3)
                      clear hcells hcells5
                      by_cases p5 : eA es j = 0
                      · have HY' : Hid ((freeL es (j + 1)).length = (freeL es j).length + 1) := by show _ = _; rw [HY.out p5]; simp
                        rw [HLJ p5 hlk] at cl
                        rw [p5] at cx
                        generalize (freeL es j).length = Kj at *
                        clear p5 HY HN HLJ
                        go_wp2
                        go_round
                        case rel => exact ⟨j + 1, by omega, by go_num, by rw [HY'.out]; go_num, by rw [HY'.out]; omega⟩
                        case measure => simp [intOf]; omega
                      · have HN' : Hid (freeL es (j + 1) = freeL es j) := HN.out p5
                        generalize eA es j = x at cx p5
                        have p5' : (x == 0) = false := by simpa using p5
                        clear p5 HY HN HLJ cl
                        go_wp2
                        go_round
                        case rel => exact ⟨j + 1, by omega, by go_num, by rw [HN'.out], by rw [HN'.out]; exact hjr⟩
                        case measure => simp [intOf]; omega
                    · go_wp2
                      go_ret
                      exact ⟨rfl, HB5.out⟩
                  · go_wp2
                    go_ret
                    exact ⟨rfl, HB5.out⟩
    · as_aux_lemma =>
        go_wp2_with fail
        clear v1 f1
        go_loopw [8] (fun o wr => ∃ k : Nat, k ≤ n2 ∧ o = .int .i64 k ∧ Hid (Below w3.heap.size w3 wr)) (fun o _ => n2 - (intOf o).toNat)
        case atStart => exact ⟨0, Nat.zero_le _, rfl, Below.refl _ _⟩
        case round =>
          obtain ⟨k, hk, rfl, hbl⟩ := hrel
          by_cases hlt : k < n2
          · obtain ⟨g', off', e', hcells⟩ := (HC3.out.below hbl.out).2.resolve_left (by omega)
            subst e'
            have hgd := hk
            have cx := hcells k hlt
            have HFV : Hid (∀ h1 : (k : Int) ≠ act, 1 ≤ cs[k]?.getD 0 → cs[k]?.getD 0 < sb → fitV cs act sb k = true) := fun h1 h2 h3 => fitV_iff.2 ⟨h1, h2, h3⟩
            have HFF : Hid (∀ h1 : (k : Int) ≠ act, cs[k]?.getD 0 = 0 → fitF cs act k = true) := fun h1 h2 => fitF_iff.2 ⟨h1, h2⟩
            have HVJ := Hid.out (HV.out.at_no (by omega) k hlt)
            have HFJ := Hid.out (HF.out.at_no (by omega) k hlt)
            generalize cs[k]?.getD 0 = x at cx HFV HFF HVJ
            clear hcells
            by_cases p1 : (k : Int) = act
            · have p1' : ((k : Int) != act) = false := by simpa using p1
              clear p1
              go_wp2
              go_roundw
              case rel => exact ⟨k + 1, by omega, by go_num, hbl⟩
              case measure => simp [intOf]; omega
            have p1' : ((k : Int) != act) = true := by simpa using p1
            by_cases p2 : 1 ≤ x
            · have p5 : (x == 0) = false := by simp only [beq_eq_false_iff_ne, ne_eq]; omega
              by_cases p3 : x < sb
              · by_cases p4 : (k : Int) = v
                · have p4' : ((k : Int) != v) = false := by simpa using p4
                  clear p4 p1
                  go_wp2
                  go_roundw
                  case rel => exact ⟨k + 1, by omega, by go_num, hbl⟩
                  case measure => simp [intOf]; omega
                · have := HFV.out p1 p2 p3
                  rw [HVJ] at this
                  cases this
              · clear p1
                go_wp2
                go_roundw
                case rel => exact ⟨k + 1, by omega, by go_num, hbl⟩
                case measure => simp [intOf]; omega
            · by_cases p5 : x = 0
              · have := HFF.out p1 p5
                rw [HFJ] at this
                cases this
              · have p5' : (x == 0) = false := by simpa using p5
                clear p1 p5
                go_wp2
                go_roundw
                case rel => exact ⟨k + 1, by omega, by go_num, hbl⟩
                case measure => simp [intOf]; omega
          · have HBL : Hid (Below w.heap.size w wr) := HB3.out.trans (hbl.out.mono HB3.out.size)
            clear hbl
            go_wp2_with fail
            refine (drawFreeLids_any a n ca xs _ (HA.out.below HBL.out) HX.out (by omega)).mono ?_
            rintro e w4 ⟨a4, n4, c4, es, nn, rfl, hE, hn4, ⟨nn0, nn1⟩, hb4⟩
            have HE4 : Hid (ERead w4 a4 n4 es) := hE
            have HB4 : Hid (Below w.heap.size w w4) := HBL.out.trans (hb4.mono HBL.out.size)
            clear hE hb4 HBL
            go_wp2_with fail
            refine (freeLids_impl a4 n4 c4 es nn _ HE4.out (by omega)).mono ?_
            rintro e w5 ⟨r5, rfl, ho5, hb5⟩
            have HE5 : Hid (ERead w5 a4 n4 es) := HE4.out.below hb5
            have HB5 : Hid (Below w.heap.size w w5) := HB4.out.trans (hb5.mono HB4.out.size)
            obtain ⟨a5, c5, rfl, h5⟩ := owns_i64 ho5
            have hr5 : (freeR es n4 nn).length ≤ 1025 := freeR_le es n4 nn (by omega)
            obtain ⟨R, hR⟩ : ∃ R, freeR es n4 nn = R := ⟨_, rfl⟩
            rw [hR] at h5 hr5 ⊢
            obtain ⟨r, hr⟩ : ∃ r, R.length = r := ⟨_, rfl⟩
            rw [hr] at h5 hr5 ⊢
            have HL5 : Hid (IRow .i64 w5 a5 r R) := h5
            have HRE : Hid (freeR es n4 nn = R) := hR
            have HRL : Hid (R.length = r) := hr
            clear ho5 hb5 h5 HE4 HB4 hR hr
            go_wp2
            go_loop [12, 13] (fun q i => ∃ k : Nat, k ≤ n4 ∧ i = .int .i64 k ∧ q = .int .i64 ((freeL es k).length : Int)) (fun _ i => n4 - (intOf i).toNat)
            case atStart => exact ⟨0, Nat.zero_le _, rfl, rfl⟩
            case round =>
              obtain ⟨k, hk, rfl, rfl⟩ := hrel
              have hfl := freeL_len es k
              by_cases hlt : k < n4
              · obtain ⟨g4, off4, rfl, hcells⟩ := HE5.out.2.resolve_left (by omega)
                have cx := (hcells k hlt).1
                have HY : Hid (eA es k = 0 → freeL es (k + 1) = freeL es k ++ [(k : Int) + 1]) := fun h => freeL_yes h
                have HN : Hid (¬ eA es k = 0 → freeL es (k + 1) = freeL es k) := fun h => freeL_no h
                generalize eA es k = x at cx HY HN
                clear hcells
                by_cases p5 : x = 0
                · have HY' : Hid (((freeL es (k + 1)).length : Int) = (freeL es k).length + 1) := by show _ = _; rw [HY.out p5]; simp
                  subst p5
                  go_wp2
                  go_round
                  case rel => exact ⟨k + 1, by omega, by go_num, by rw [HY'.out]⟩
                  case measure => simp [intOf]; omega
                · have p5' : (x == 0) = false := by simpa using p5
                  have HN' : Hid (freeL es (k + 1) = freeL es k) := HN.out p5
                  clear p5
                  go_wp2
                  go_round
                  case rel => exact ⟨k + 1, by omega, by go_num, by rw [HN'.out]⟩
                  case measure => simp [intOf]; omega
              · obtain rfl : k = n4 := by omega
                by_cases q1 : nn < 0
                · obtain rfl : r = 0 := by have h1 := HRL.out; have h2 := HRE.out; rw [freeR_neg q1] at h2; subst h2; exact h1.symm
                  go_wp2
                  go_ret
                  exact ⟨rfl, HB5.out⟩
                by_cases q2 : ((freeL es k).length : Int) < nn
                · obtain rfl : r = 0 := by have h1 := HRL.out; have h2 := HRE.out; rw [show freeR es k nn = [] from if_neg (by omega)] at h2; subst h2; exact h1.symm
                  go_wp2
                  go_ret
                  exact ⟨rfl, HB5.out⟩
                have HRT : Hid (freeR es k nn = (freeL es k).take nn.toNat) := if_pos (by omega)
                obtain rfl : nn = (r : Int) := by have h1 := HRL.out; have h2 := HRE.out; rw [HRT.out] at h2; subst h2; rw [List.length_take] at h1; omega
                have HLA : Hid (∀ i, i < k → eA es i = 0 → (freeL es i).length < r → R[(freeL es i).length]?.getD 0 = (i : Int) + 1) := fun i hi h0 hr => by
                  rw [← HRE.out, HRT.out]
                  exact lid_at hi h0 (by simpa using hr)
                have hfl9 := hfl
                clear HRE HRT
                go_wp2
                go_loop [14, 15] (fun kk i => ∃ j : Nat, j ≤ k ∧ i = .int .i64 j ∧ kk = .int .i64 ((freeL es j).length : Int) ∧ (freeL es j).length ≤ r) (fun _ i => k - (intOf i).toNat)
                case atStart => exact ⟨0, Nat.zero_le _, rfl, rfl, Nat.zero_le _⟩
                case round =>
                  obtain ⟨j, hj, rfl, rfl, hjr⟩ := hrel
                  by_cases hlt3 : j < k
                  · by_cases hlk : (freeL es j).length < r
                    · obtain ⟨g4, off4, rfl, hcells⟩ := HE5.out.2.resolve_left (by omega)
                      obtain ⟨g5, off5, rfl, hcells5⟩ := HL5.out.2.resolve_left (by omega)
                      have cx := (hcells j hlt3).1
                      have cl := hcells5 _ hlk
                      have HY : Hid (eA es j = 0 → freeL es (j + 1) = freeL es j ++ [(j : Int) + 1]) := fun h => freeL_yes h
                      have HN : Hid (¬ eA es j = 0 → freeL es (j + 1) = freeL es j) := fun h => freeL_no h
                      have HLJ := Hid.out (HLA.out j hlt3)
                      clear hcells hcells5
                      by_cases p5 : eA es j = 0
                      · have HY' : Hid ((freeL es (j + 1)).length = (freeL es j).length + 1) := by show _ = _; rw [HY.out p5]; simp
                        rw [HLJ p5 hlk] at cl
                        rw [p5] at cx
                        generalize (freeL es j).length = Kj at *
                        clear p5 HY HN HLJ
                        go_wp2
                        go_round
                        case rel => exact ⟨j + 1, by omega, by go_num, by rw [HY'.out]; go_num, by rw [HY'.out]; omega⟩
                        case measure => simp [intOf]; omega
                      · have HN' : Hid (freeL es (j + 1) = freeL es j) := HN.out p5
                        generalize eA es j = x at cx p5
                        have p5' : (x == 0) = false := by simpa using p5
                        clear p5 HY HN HLJ cl
                        go_wp2
                        go_round
                        case rel => exact ⟨j + 1, by omega, by go_num, by rw [HN'.out], by rw [HN'.out]; exact hjr⟩
                        case measure => simp [intOf]; omega
                    · go_wp2
                      go_ret
                      exact ⟨rfl, HB5.out⟩
                  · go_wp2
                    go_ret
                    exact ⟨rfl, HB5.out⟩
end Go.Proofs.Ytkkammbfomiofaa
