/-
  FormatAnswer: the specification's.
-/
import Derived.Test.YtkkammbfomiofadDoorFfa
namespace Go.Proofs.YtkkammbfomiofadDoor
open Go.RowKit
set_option linter.unusedSimpArgs false
set_option linter.unusedVariables false

theorem alloc_second (w : World) (o o' : Obj) : ((w.alloc o).alloc o').heap[w.heap.size + 1]? = some o' := by
  have := heap_alloc_new (w.alloc o) o'
  simpa using this
theorem blankL_succ (ss : List ByteArray) (k : Nat) (h : k < ss.length) : blankL (ss.take (k + 1)) = blankL (ss.take k) ++ (32 :: (sAt ss k).data.toList) := by
  rw [List.take_succ_eq_append_getElem h]
  unfold blankL sAt
  rw [List.getElem?_eq_getElem h, List.flatMap_append]
  simp only [List.flatMap_cons, List.flatMap_nil, List.append_nil, Option.getD_some]
theorem ans_cells {W : World} {r : Nat} {x0 x1 x2 x3 x4 x5 x6 x7 x8 : Value} {t : TypeId} (h : W.heap[r]? = some (.cells #[x0, x1, x2, x3, x4, x5, x6, x7, x8] t (0, 0))) : W.cell? ⟨r, 1, none⟩ = some x1 ∧ W.cell? ⟨r, 2, none⟩ = some x2 :=
  ⟨by rw [cell_of_row W r 1 _ _ _ h]; rfl, by rw [cell_of_row W r 2 _ _ _ h]; rfl⟩

set_option maxHeartbeats 4000000 in
set_option maxRecDepth 100000 in
theorem formatAnswer_spec (kind size code num s0 s1 s2 s3 s4 : Int) (nm cd d : ByteArray) (g n c : Nat) (ss : List ByteArray) (w : World) (ha : SHead w g n ss) (hg : g < w.heap.size) (hn : n ≤ 1048576) (ht : totS ss ≤ 1048576) (hd : d.size ≤ 1048576)
    (h1 : I64 code) (h2 : I64 num) (k0 : I64 s0) (k1 : I64 s1) (k2 : I64 s2) (k3 : I64 s3) (k4 : I64 s4) :
    Calls Tryd.prog 6 #[.agg #[.int .i64 kind, .string nm, .string cd, .int .i64 size], .agg #[.int .i64 code, .string d, .slice (some ⟨g, 0, none⟩) n c, .int .i64 num, .int .i64 s0, .int .i64 s1, .int .i64 s2, .int .i64 s3, .int .i64 s4]] w
      fun e w' => e = .returned (.string ⟨(fmtL kind code d ss num [s0, s1, s2, s3, s4]).toArray⟩) ∧ Below w.heap.size w w' := by
  have HA := Lib.hid ha
  have H1 := Lib.hid h1
  have H2 := Lib.hid h2
  have HST := Lib.hid (five_range k0 k1 k2 k3 k4)
  have hB2 : ∀ o o' : Obj, Below w.heap.size w ((w.alloc o).alloc o') := fun o o' => ((Below.refl _ w).alloc (Nat.le_refl _) o).alloc (by simp) o'
  have hB3 : ∀ o o' o'' : Obj, Below w.heap.size w (((w.alloc o).alloc o').alloc o'') := fun o o' o'' => (hB2 o o').alloc (by simp; omega) o''
  clear ha h1 h2 k0 k1 k2 k3 k4
  by_cases hc : code ≠ 0
  · have HF : Hid (fmtL kind code d ss num [s0, s1, s2, s3, s4] = [101, 114, 114, 111, 114] ++ sayL [code]) := by show _ = _; unfold fmtL; rw [if_pos hc]
    have hcb : (code != 0) = true := by simpa using hc
    go_enter Tryd.func6, Tryd.ntmps6
    go_wp2_with fail
    refine (say_any ⟨#[101, 114, 114, 111, 114]⟩ (by decide) _ 1 _ [code] _ (one_rowN (by simp)) (by omega) (one_range H1.out.1 H1.out.2)).mono ?_
    rintro e w1 ⟨rfl, hb1⟩
    have HB1 : Hid (Below w.heap.size w w1) := (hB3 _ _ _).trans (hb1.mono (by simp; omega))
    clear hb1
    obtain ⟨T, hT⟩ : ∃ T : ByteArray, T = ⟨((⟨#[101, 114, 114, 111, 114]⟩ : ByteArray).data.toList ++ sayL [code]).toArray⟩ := ⟨_, rfl⟩
    rw [← hT]
    have HTT := Lib.hid hT
    clear hT
    go_wp2
    go_ret
    exact ⟨by rw [HF.out, HTT.out]; rfl, HB1.out⟩
  obtain rfl : code = 0 := by omega
  by_cases e1 : kind = 1
  · subst e1
    have HF : Hid (fmtL 1 0 d ss num [s0, s1, s2, s3, s4] = [111, 107]) := rfl
    go_enter Tryd.func6, Tryd.ntmps6
    go_wp2
    go_ret
    exact ⟨by rw [HF.out]; rfl, hB2 _ _⟩
  by_cases e3 : kind = 3
  · subst e3
    have HF : Hid (fmtL 3 0 d ss num [s0, s1, s2, s3, s4] = [111, 107]) := rfl
    go_enter Tryd.func6, Tryd.ntmps6
    go_wp2
    go_ret
    exact ⟨by rw [HF.out]; rfl, hB2 _ _⟩
  by_cases e4 : kind = 4
  · subst e4
    have HF : Hid (fmtL 4 0 d ss num [s0, s1, s2, s3, s4] = [111, 107]) := rfl
    go_enter Tryd.func6, Tryd.ntmps6
    go_wp2
    go_ret
    exact ⟨by rw [HF.out]; rfl, hB2 _ _⟩
  by_cases e6 : kind = 6
  · subst e6
    have HF : Hid (fmtL 6 0 d ss num [s0, s1, s2, s3, s4] = [111, 107]) := rfl
    go_enter Tryd.func6, Tryd.ntmps6
    go_wp2
    go_ret
    exact ⟨by rw [HF.out]; rfl, hB2 _ _⟩
  by_cases e2 : kind = 2
  · subst e2
    have HF : Hid (fmtL 2 0 d ss num [s0, s1, s2, s3, s4] = dataL d) := rfl
    go_enter Tryd.func6, Tryd.ntmps6
    go_wp2_with fail
    refine (say_any ⟨#[100, 97, 116, 97]⟩ (by decide) _ 1 _ [(d.size : Int)] _ (one_rowN (by simp)) (by omega) (one_range (by omega) (by omega))).mono ?_
    rintro e w1 ⟨rfl, hb1⟩
    have HB1 : Hid (Below w.heap.size w w1) := (hB3 _ _ _).trans (hb1.mono (by simp; omega))
    have kA := ((hb1.block (w.heap.size + 1) (by simp)).trans (heap_alloc_old _ _ (by simp))).trans (alloc_second w _ _)
    have zA := (Array.getElem?_eq_some_iff.1 kA).1
    obtain ⟨x1, x2⟩ := ans_cells kA
    clear hb1 kA
    obtain ⟨T, hT⟩ : ∃ T : ByteArray, T = ⟨((⟨#[100, 97, 116, 97]⟩ : ByteArray).data.toList ++ sayL [(d.size : Int)]).toArray⟩ := ⟨_, rfl⟩
    rw [← hT]
    have hTs : T.size ≤ 26 := by have := sayL_one_len (x := (d.size : Int)) (by omega) (by omega); rw [hT, size_list, List.length_append]; show 4 + _ ≤ 26; omega
    by_cases h0 : d.size = 0
    · have HE : Hid (T = ⟨(dataL d).toArray⟩) := by show _ = _; unfold dataL restD; rw [hT, if_pos h0, List.append_nil]
      clear hT
      go_wp2
      go_ret
      exact ⟨by rw [HF.out, ← HE.out]; rfl, HB1.out⟩
    · have hpos : (0 : Int) < (d.size : Int) := by omega
      have HQ := Lib.hid (show restD d = 32 :: escL d.data.toList from by unfold restD; rw [if_neg h0])
      have HC := Lib.hid (fun w => escape_spec d hd w)
      have hes : (⟨(escL d.data.toList).toArray⟩ : ByteArray).size ≤ 3145728 := by have := escL_len d.data.toList; have h2 : d.data.toList.length = d.size := (by rw [Array.length_toList]; rfl); rw [size_list]; omega
      have HE : Hid (T ++ (⟨#[32]⟩ ++ ⟨(escL d.data.toList).toArray⟩) = ⟨(dataL d).toArray⟩) := by show _ = _; unfold dataL; rw [hT, HQ.out, ByteArray.mk_append_mk, ByteArray.mk_append_mk]; simp
      generalize (⟨(escL d.data.toList).toArray⟩ : ByteArray) = X at *
      have h32 : (⟨#[32]⟩ : ByteArray).size = 1 := rfl
      have hs1 : ¬ 9223372036854775807 < 1 + X.size := by omega
      have hs2 : ¬ 9223372036854775807 < T.size + (1 + X.size) := by omega
      clear hT
      go_wp2_with fail
      refine (HC.out _).mono ?_
      rintro e w2 ⟨rfl, hb2⟩
      have HB2 : Hid (Below w.heap.size w w2) := HB1.out.trans (hb2.mono HB1.out.size)
      clear hb2 HC
      go_wp2
      go_ret
      exact ⟨by rw [HF.out, ← HE.out]; rfl, HB2.out⟩
  by_cases e5 : kind = 5
  · subst e5
    have HF : Hid (fmtL 5 0 d ss num [s0, s1, s2, s3, s4] = namesL ss) := rfl
    go_enter Tryd.func6, Tryd.ntmps6
    go_wp2_with fail
    refine (say_any ⟨#[110, 97, 109, 101, 115]⟩ (by decide) _ 1 _ [(n : Int)] _ (one_rowN (by simp)) (by omega) (one_range (by omega) (by omega))).mono ?_
    rintro e w1 ⟨rfl, hb1⟩
    have HB1 : Hid (Below w.heap.size w w1) := (hB3 _ _ _).trans (hb1.mono (by simp; omega))
    have kA := ((hb1.block (w.heap.size + 1) (by simp)).trans (heap_alloc_old _ _ (by simp))).trans (alloc_second w _ _)
    have zA := (Array.getElem?_eq_some_iff.1 kA).1
    clear hb1
    obtain ⟨T, hT⟩ : ∃ T : ByteArray, T = ⟨((⟨#[110, 97, 109, 101, 115]⟩ : ByteArray).data.toList ++ sayL [(n : Int)]).toArray⟩ := ⟨_, rfl⟩
    rw [← hT]
    have hTs : T.size ≤ 27 := by have := sayL_one_len (x := (n : Int)) (by omega) (by omega); rw [hT, size_list, List.length_append]; show 5 + _ ≤ 27; omega
    have HTT := Lib.hid hT
    clear hT
    obtain ⟨v2, w2, hcv, own2, hb2⟩ := conv_M (P := Tryd.prog) w1 9 44 5 T (by unfold maxLen; omega) Tryd.underlying9 Tryd.underlying44 Tryd.underlying5
    have HA1 := Lib.hid (HA.out.below HB1.out)
    have HO2 := Lib.hid own2
    have HB2 := Lib.hid hb2
    have HK := Lib.hid kA
    have HTL : Hid (T.data.toList.length = T.size) := by show _ = _; rw [Array.length_toList]; rfl
    obtain ⟨i0, hi, hz0, hz1, hz2⟩ := info_parts infoB
    clear own2 hb2 kA
    go_wp2_with fail
    go_loopw [7, 8] (fun v i wr => ∃ k : Nat, k ≤ n ∧ i = .int .i64 k ∧ Hid (OwnM wr w1.heap.size 5 v (T.data.toList ++ blankL (ss.take k)) ∧ Below w1.heap.size w1 wr)) (fun _ i _ => n - (intOf i).toNat)
    case atStart => exact ⟨0, Nat.zero_le _, rfl, by simpa [blankL] using HO2.out, HB2.out⟩
    case round =>
      obtain ⟨k, hk, rfl, HR⟩ := hrel
      obtain ⟨x1, x2⟩ := ans_cells ((HR.out.2.block (w.heap.size + 1) zA).trans HK.out)
      have hwz := HR.out.2.size
      by_cases hlt : k < n
      · have c1 := (HA1.out.below HR.out.2).2 k hlt
        have hlt' : (k : Int) < (n : Int) := by omega
        have h0' : (0 : Int) ≤ (k : Int) := by omega
        have HS := Lib.hid (blankL_succ ss k (by rw [HA1.out.1]; exact hlt))
        have HLE := Lib.hid (show (T.data.toList ++ blankL (ss.take k)).length + 1 + (sAt ss k).size ≤ 4194304 from by have h1 := totS_succ ss k (by rw [HA1.out.1]; exact hlt); have h2 := totS_le ss (k + 1); rw [List.length_append, blankL_len, HTL.out, List.length_take, HA1.out.1]; omega)
        obtain ⟨sk, hsk⟩ : ∃ sk, sAt ss k = sk := ⟨_, rfl⟩
        have HSK := Lib.hid hsk
        rw [hsk] at c1 HLE HS
        clear hsk
        have own := HR.out.1
        have hbr := HR.out.2
        go_wp2_with (at_builtin; refine wpList_M _ rfl _ _ 44 rfl w1.heap.size 5 i0 Tryd.underlying44 hi hz0 hz1 hz2 _ _ rfl (own.alloc _) ⟨wr.heap.size, 0, none⟩ 1 1 [32] rfl rfl (one_byte rfl) (by have := HLE.out; simp only [List.length_cons, List.length_nil]; omega) (by simp; omega) ?_)
        intro v3 w3 own3 hgrow
        have hb3 : Below w1.heap.size w1 w3 := Below.grownM (hbr.alloc hwz _) (by simp; omega) hgrow (own.alloc _)
        have hw3 := hb3.size
        obtain ⟨y1, y2⟩ := ans_cells ((hb3.block (w.heap.size + 1) zA).trans HK.out)
        have c3 := (HA1.out.below hb3).2 k hlt
        rw [show sAt ss k = sk from HSK.out] at c3
        have hlim3 : (T.data.toList ++ (blankL (ss.take k) ++ [32])).length + sk.size ≤ 140737488355328 := by have := HLE.out; rw [← List.append_assoc, List.length_append (bs := [32])]; show _ + 1 + _ ≤ _; omega
        clear own hgrow hbr c1 HR x1 x2
        go_wp2_with (at_builtin; refine wpList_Ms _ rfl _ _ 44 9 rfl w1.heap.size 5 i0 Tryd.underlying44 Tryd.underlying9 hi hz0 hz1 hz2 _ _ rfl own3 sk rfl hlim3 (by omega) ?_)
        intro v4 w4 own4 hgrow4
        have HR4 : Hid (OwnM w4 w1.heap.size 5 v4 (T.data.toList ++ blankL (ss.take (k + 1))) ∧ Below w1.heap.size w1 w4) := by
          refine ⟨?_, Below.grownM hb3 (by omega) hgrow4 own3⟩
          rw [HS.out]
          simpa using own4
        clear own3 own4 hgrow4 hb3 HLE HS c3 y1 y2
        go_wp2
        go_roundw
        case rel => exact ⟨k + 1, by omega, by go_num, HR4⟩
        case measure => simp [intOf]; omega
      · have own := HR.out.1
        rw [List.take_of_length_le (by rw [HA1.out.1]; omega)] at own
        have hcb := conv_back_M (P := Tryd.prog) wr own 44 9 Tryd.underlying44 Tryd.underlying5 Tryd.underlying9
        have HE : Hid ((⟨(T.data.toList ++ blankL ss).toArray⟩ : ByteArray) = ⟨(namesL ss).toArray⟩) := by show _ = _; unfold namesL; rw [HTT.out, HA1.out.1]
        have HB := Lib.hid (HB1.out.trans (HR.out.2.mono HB1.out.size))
        clear own HR
        go_wp2
        go_ret
        exact ⟨by rw [HF.out, ← HE.out]; rfl, HB.out⟩
  by_cases e7 : kind = 7
  · subst e7
    have HF : Hid (fmtL 7 0 d ss num [s0, s1, s2, s3, s4] = [109, 111, 118, 101, 100] ++ sayL [num]) := rfl
    go_enter Tryd.func6, Tryd.ntmps6
    go_wp2_with fail
    refine (say_any ⟨#[109, 111, 118, 101, 100]⟩ (by decide) _ 1 _ [num] _ (one_rowN (by simp)) (by omega) (one_range H2.out.1 H2.out.2)).mono ?_
    rintro e w1 ⟨rfl, hb1⟩
    have HB1 : Hid (Below w.heap.size w w1) := (hB3 _ _ _).trans (hb1.mono (by simp; omega))
    clear hb1
    obtain ⟨T, hT⟩ : ∃ T : ByteArray, T = ⟨((⟨#[109, 111, 118, 101, 100]⟩ : ByteArray).data.toList ++ sayL [num]).toArray⟩ := ⟨_, rfl⟩
    rw [← hT]
    have HTT := Lib.hid hT
    clear hT
    go_wp2
    go_ret
    exact ⟨by rw [HF.out, HTT.out]; rfl, HB1.out⟩
  by_cases e8 : kind = 8
  · subst e8
    have HF : Hid (fmtL 8 0 d ss num [s0, s1, s2, s3, s4] = [115, 116, 97, 116] ++ sayL [s0, s1, s2, s3, s4]) := rfl
    go_enter Tryd.func6, Tryd.ntmps6
    go_wp2_with fail
    refine (say_any ⟨#[115, 116, 97, 116]⟩ (by decide) _ 5 _ [s0, s1, s2, s3, s4] _ (five_rowN (by simp)) (by omega) HST.out).mono ?_
    rintro e w1 ⟨rfl, hb1⟩
    have HB1 : Hid (Below w.heap.size w w1) := (hB3 _ _ _).trans (hb1.mono (by simp; omega))
    clear hb1
    obtain ⟨T, hT⟩ : ∃ T : ByteArray, T = ⟨((⟨#[115, 116, 97, 116]⟩ : ByteArray).data.toList ++ sayL [s0, s1, s2, s3, s4]).toArray⟩ := ⟨_, rfl⟩
    rw [← hT]
    have HTT := Lib.hid hT
    clear hT
    go_wp2
    go_ret
    exact ⟨by rw [HF.out, HTT.out]; rfl, HB1.out⟩
  have HF : Hid (fmtL kind 0 d ss num [s0, s1, s2, s3, s4] = []) := by show _ = _; unfold fmtL; rw [if_neg (by omega), if_neg (by omega), if_neg e2, if_neg e5, if_neg e7, if_neg e8]
  have f1 : (kind == 1) = false := by simpa using e1
  have f2 : (kind == 2) = false := by simpa using e2
  have f3 : (kind == 3) = false := by simpa using e3
  have f4 : (kind == 4) = false := by simpa using e4
  have f5 : (kind == 5) = false := by simpa using e5
  have f6 : (kind == 6) = false := by simpa using e6
  have f7 : (kind == 7) = false := by simpa using e7
  have f8 : (kind == 8) = false := by simpa using e8
  clear e1 e2 e3 e4 e5 e6 e7 e8
  go_enter Tryd.func6, Tryd.ntmps6
  go_wp2
  go_ret
  exact ⟨by rw [HF.out]; rfl, hB2 _ _⟩
end Go.Proofs.YtkkammbfomiofadDoor
