/-
  FormatAnswer: the program's.
-/
import Derived.Test.YtkkammbfomiofadDoorFtd
namespace Go.Proofs.YtkkammbfomiofadDoor
open Go.RowKit
set_option linter.unusedSimpArgs false
set_option linter.unusedVariables false

def fmtL (kind code : Int) (d : ByteArray) (ss : List ByteArray) (num : Int) (st : List Int) : List UInt8 :=
  if code ≠ 0 then [101, 114, 114, 111, 114] ++ sayL [code]
  else if kind = 1 ∨ kind = 3 ∨ kind = 4 ∨ kind = 6 then [111, 107]
  else if kind = 2 then dataL d
  else if kind = 5 then namesL ss
  else if kind = 7 then [109, 111, 118, 101, 100] ++ sayL [num]
  else if kind = 8 then [115, 116, 97, 116] ++ sayL st
  else []
def I64 (x : Int) : Prop := -9223372036854775808 ≤ x ∧ x ≤ 9223372036854775807
theorem five_row (w : World) (a b c d e : Int) (t : TypeId) : IRow .i64 (w.alloc (.cells #[.int .i64 a, .int .i64 b, .int .i64 c, .int .i64 d, .int .i64 e] t)) (some ⟨w.heap.size, 0, none⟩) 5 [a, b, c, d, e] :=
  ⟨rfl, .inr ⟨w.heap.size, 0, rfl, fun i hi => by
    match i, hi with
    | 0, _ => simp
    | 1, _ => simp
    | 2, _ => simp
    | 3, _ => simp
    | 4, _ => simp⟩⟩
theorem one_rowN {W : World} {m : Nat} (hm : W.heap.size = m) {x : Int} {t : TypeId} : IRow .i64 (W.alloc (.cells #[.int .i64 x] t)) (some ⟨m, 0, none⟩) 1 [x] := by subst hm; exact one_row W x t
theorem five_rowN {W : World} {m : Nat} (hm : W.heap.size = m) {a b c d e : Int} {t : TypeId} : IRow .i64 (W.alloc (.cells #[.int .i64 a, .int .i64 b, .int .i64 c, .int .i64 d, .int .i64 e] t)) (some ⟨m, 0, none⟩) 5 [a, b, c, d, e] := by subst hm; exact five_row W a b c d e t
theorem five_range {a b c d e : Int} (ha : I64 a) (hb : I64 b) (hc : I64 c) (hd : I64 d) (he : I64 e) : ∀ i, i < 5 → -9223372036854775808 ≤ [a, b, c, d, e][i]?.getD 0 ∧ [a, b, c, d, e][i]?.getD 0 ≤ 9223372036854775807 := by
  intro i hi
  match i, hi with
  | 0, _ => exact ha
  | 1, _ => exact hb
  | 2, _ => exact hc
  | 3, _ => exact hd
  | 4, _ => exact he

set_option maxHeartbeats 4000000 in
set_option maxRecDepth 100000 in
theorem formatAnswer_impl (kind size code num s0 s1 s2 s3 s4 : Int) (nm cd d : ByteArray) (g n c : Nat) (ss : List ByteArray) (w : World) (ha : SHead w g n ss) (hg : g < w.heap.size) (hn : n ≤ 1048576) (ht : totS ss ≤ 1048576) (hd : d.size ≤ 1048576)
    (h1 : I64 code) (h2 : I64 num) (k0 : I64 s0) (k1 : I64 s1) (k2 : I64 s2) (k3 : I64 s3) (k4 : I64 s4) (htab : Tab w) :
    Calls Tryd.prog 9 #[.agg #[.int .i64 kind, .string nm, .string cd, .int .i64 size], .agg #[.int .i64 code, .string d, .slice (some ⟨g, 0, none⟩) n c, .int .i64 num, .int .i64 s0, .int .i64 s1, .int .i64 s2, .int .i64 s3, .int .i64 s4]] w
      fun e w' => e = .returned (.string ⟨(fmtL kind code d ss num [s0, s1, s2, s3, s4]).toArray⟩) ∧ Below w.heap.size w w' := by
  have HT := Lib.hid htab
  have HA := Lib.hid ha
  have H1 := Lib.hid h1
  have H2 := Lib.hid h2
  have HST := Lib.hid (five_range k0 k1 k2 k3 k4)
  have hB2 : ∀ o o' : Obj, Below w.heap.size w ((w.alloc o).alloc o') := fun o o' => ((Below.refl _ w).alloc (Nat.le_refl _) o).alloc (by simp) o'
  have hB3 : ∀ o o' o'' : Obj, Below w.heap.size w (((w.alloc o).alloc o').alloc o'') := fun o o' o'' => (hB2 o o').alloc (by simp; omega) o''
  clear ha h1 h2 k0 k1 k2 k3 k4 htab
  by_cases hc : code ≠ 0
  · have HF : Hid (fmtL kind code d ss num [s0, s1, s2, s3, s4] = [101, 114, 114, 111, 114] ++ sayL [code]) := by show _ = _; unfold fmtL; rw [if_pos hc]
    have hcb : (code != 0) = true := by simpa using hc
    go_enter Tryd.func9, Tryd.ntmps9
    go_wp2_with fail
    refine (told_any ⟨#[101, 114, 114, 111, 114]⟩ (by decide) _ 1 _ [code] _ (one_rowN (by simp)) (by omega) (one_range H1.out.1 H1.out.2) (HT.out.below (hB3 _ _ _))).mono ?_
    rintro e w1 ⟨rfl, hb1⟩
    have HB1 : Hid (Below w.heap.size w w1) := (hB3 _ _ _).trans (hb1.mono (by simp; omega))
    clear hb1
    obtain ⟨T, hT⟩ : ∃ T : ByteArray, T = ⟨((⟨#[101, 114, 114, 111, 114]⟩ : ByteArray).data.toList ++ sayL [code]).toArray⟩ := ⟨_, rfl⟩
    rw [← hT]
    have HTT := Lib.hid hT
    clear hT
    go_wp2
    go_ret
    exact ⟨by rw [HF.out, HTT.out]; rfl, HB1.out⟩
  obtain rfl : code = 0 := by omega
  by_cases e1 : kind = 1
  · subst e1
    have HF : Hid (fmtL 1 0 d ss num [s0, s1, s2, s3, s4] = [111, 107]) := rfl
    go_enter Tryd.func9, Tryd.ntmps9
    go_wp2
    go_ret
    exact ⟨by rw [HF.out]; rfl, hB2 _ _⟩
  by_cases e3 : kind = 3
  · subst e3
    have HF : Hid (fmtL 3 0 d ss num [s0, s1, s2, s3, s4] = [111, 107]) := rfl
    go_enter Tryd.func9, Tryd.ntmps9
    go_wp2
    go_ret
    exact ⟨by rw [HF.out]; rfl, hB2 _ _⟩
  by_cases e4 : kind = 4
  · subst e4
    have HF : Hid (fmtL 4 0 d ss num [s0, s1, s2, s3, s4] = [111, 107]) := rfl
    go_enter Tryd.func9, Tryd.ntmps9
    go_wp2
    go_ret
    exact ⟨by rw [HF.out]; rfl, hB2 _ _⟩
  by_cases e6 : kind = 6
  · subst e6
    have HF : Hid (fmtL 6 0 d ss num [s0, s1, s2, s3, s4] = [111, 107]) := rfl
    go_enter Tryd.func9, Tryd.ntmps9
    go_wp2
    go_ret
    exact ⟨by rw [HF.out]; rfl, hB2 _ _⟩
  by_cases e2 : kind = 2
  · subst e2
    have HF : Hid (fmtL 2 0 d ss num [s0, s1, s2, s3, s4] = dataL d) := rfl
    go_enter Tryd.func9, Tryd.ntmps9
    go_wp2_with fail
    refine (tellData_any d hd _ (HT.out.below (hB2 _ _))).mono ?_
    rintro e w1 ⟨rfl, hb1⟩
    have HB1 : Hid (Below w.heap.size w w1) := (hB2 _ _).trans (hb1.mono (by simp; omega))
    clear hb1
    obtain ⟨T, hT⟩ : ∃ T : ByteArray, T = ⟨(dataL d).toArray⟩ := ⟨_, rfl⟩
    rw [← hT]
    have HTT := Lib.hid hT
    clear hT
    go_wp2
    go_ret
    exact ⟨by rw [HF.out, ← HTT.out]; rfl, HB1.out⟩
  by_cases e5 : kind = 5
  · subst e5
    have HF : Hid (fmtL 5 0 d ss num [s0, s1, s2, s3, s4] = namesL ss) := rfl
    go_enter Tryd.func9, Tryd.ntmps9
    go_wp2_with fail
    refine (tellNames_any g n c ss _ (HA.out.below (hB2 _ _)) (by simp; omega) hn ht (HT.out.below (hB2 _ _))).mono ?_
    rintro e w1 ⟨rfl, hb1⟩
    have HB1 : Hid (Below w.heap.size w w1) := (hB2 _ _).trans (hb1.mono (by simp; omega))
    clear hb1
    obtain ⟨T, hT⟩ : ∃ T : ByteArray, T = ⟨(namesL ss).toArray⟩ := ⟨_, rfl⟩
    rw [← hT]
    have HTT := Lib.hid hT
    clear hT
    go_wp2
    go_ret
    exact ⟨by rw [HF.out, ← HTT.out]; rfl, HB1.out⟩
  by_cases e7 : kind = 7
  · subst e7
    have HF : Hid (fmtL 7 0 d ss num [s0, s1, s2, s3, s4] = [109, 111, 118, 101, 100] ++ sayL [num]) := rfl
    go_enter Tryd.func9, Tryd.ntmps9
    go_wp2_with fail
    refine (told_any ⟨#[109, 111, 118, 101, 100]⟩ (by decide) _ 1 _ [num] _ (one_rowN (by simp)) (by omega) (one_range H2.out.1 H2.out.2) (HT.out.below (hB3 _ _ _))).mono ?_
    rintro e w1 ⟨rfl, hb1⟩
    have HB1 : Hid (Below w.heap.size w w1) := (hB3 _ _ _).trans (hb1.mono (by simp; omega))
    clear hb1
    obtain ⟨T, hT⟩ : ∃ T : ByteArray, T = ⟨((⟨#[109, 111, 118, 101, 100]⟩ : ByteArray).data.toList ++ sayL [num]).toArray⟩ := ⟨_, rfl⟩
    rw [← hT]
    have HTT := Lib.hid hT
    clear hT
    go_wp2
    go_ret
    exact ⟨by rw [HF.out, HTT.out]; rfl, HB1.out⟩
  by_cases e8 : kind = 8
  · subst e8
    have HF : Hid (fmtL 8 0 d ss num [s0, s1, s2, s3, s4] = [115, 116, 97, 116] ++ sayL [s0, s1, s2, s3, s4]) := rfl
    go_enter Tryd.func9, Tryd.ntmps9
    go_wp2_with fail
    refine (told_any ⟨#[115, 116, 97, 116]⟩ (by decide) _ 5 _ [s0, s1, s2, s3, s4] _ (five_rowN (by simp)) (by omega) HST.out (HT.out.below (hB3 _ _ _))).mono ?_
    rintro e w1 ⟨rfl, hb1⟩
    have HB1 : Hid (Below w.heap.size w w1) := (hB3 _ _ _).trans (hb1.mono (by simp; omega))
    clear hb1
    obtain ⟨T, hT⟩ : ∃ T : ByteArray, T = ⟨((⟨#[115, 116, 97, 116]⟩ : ByteArray).data.toList ++ sayL [s0, s1, s2, s3, s4]).toArray⟩ := ⟨_, rfl⟩
    rw [← hT]
    have HTT := Lib.hid hT
    clear hT
    go_wp2
    go_ret
    exact ⟨by rw [HF.out, HTT.out]; rfl, HB1.out⟩
  have HF : Hid (fmtL kind 0 d ss num [s0, s1, s2, s3, s4] = []) := by show _ = _; unfold fmtL; rw [if_neg (by omega), if_neg (by omega), if_neg e2, if_neg e5, if_neg e7, if_neg e8]
  have f1 : (kind == 1) = false := by simpa using e1
  have f2 : (kind == 2) = false := by simpa using e2
  have f3 : (kind == 3) = false := by simpa using e3
  have f4 : (kind == 4) = false := by simpa using e4
  have f5 : (kind == 5) = false := by simpa using e5
  have f6 : (kind == 6) = false := by simpa using e6
  have f7 : (kind == 7) = false := by simpa using e7
  have f8 : (kind == 8) = false := by simpa using e8
  clear e1 e2 e3 e4 e5 e6 e7 e8
  go_enter Tryd.func9, Tryd.ntmps9
  go_wp2
  go_ret
  exact ⟨by rw [HF.out]; rfl, hB2 _ _⟩
end Go.Proofs.YtkkammbfomiofadDoor
