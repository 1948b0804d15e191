/-
  The program's numbers.
-/
import Derived.Test.YtfgfdjcgfbodfaaGreatDoorPnm
import Derived.Test.YtfgfdjcgfbodfaaGreatDoorPsh
namespace Go.Proofs.YtfgfdjcgfbodfaaGreatDoor
open Go.RowKit
set_option linter.unusedSimpArgs false
set_option linter.unusedVariables false

def digs : List UInt8 := [48, 49, 50, 51, 52, 53, 54, 55, 56, 57]
theorem digs_fin : ∀ n : Fin 256, digs.contains (UInt8.ofNat n.1) = digB (UInt8.ofNat n.1) := by decide +kernel
theorem digs_contains (b : UInt8) : digs.contains b = digB b := by
  have h := digs_fin ⟨b.toNat, b.toNat_lt⟩
  have e : UInt8.ofNat b.toNat = b := by simp
  rw [e] at h
  exact h
theorem dropWhile_nil {p : UInt8 → Bool} : ∀ l : List UInt8, l.dropWhile p = [] ↔ l.all p = true := by
  intro l
  induction l with
  | nil => simp
  | cons b l ih =>
    cases h : p b
    · simp [List.dropWhile, h]
    · simp only [List.dropWhile, h, List.all_cons, Bool.true_and, ih]
theorem trimS_nil (l : List UInt8) : Lib.trimS l digs = [] ↔ l.all digB = true := by
  have e : (digs.contains ·) = digB := funext digs_contains
  unfold Lib.trimS Lib.trimLeftS Lib.trimRightS
  rw [e, dropWhile_nil]
  constructor
  · intro h
    rw [List.all_eq_true] at h
    have h2 : l.reverse.dropWhile digB = [] := by
      cases hd : l.reverse.dropWhile digB with
      | nil => rfl
      | cons c t =>
        have hc : digB c = false := by
          have := List.head?_dropWhile_not digB l.reverse
          rw [hd] at this
          simpa using this
        have := h c (by rw [hd]; simp)
        rw [hc] at this; cases this
    have h3 := (dropWhile_nil l.reverse).1 h2
    simpa using h3
  · intro h
    have : l.reverse.dropWhile digB = [] := (dropWhile_nil _).2 (by simpa using h)
    rw [this]
    rfl
def digsOf (l : List UInt8) : List UInt8 := Lib.trimPrefix l [45]
theorem digsOf_neg (r : List UInt8) : digsOf (45 :: r) = r := by simp [digsOf, Lib.trimPrefix, Lib.hasPrefix, List.isPrefixOf]
theorem digsOf_ne {b : UInt8} (h : b ≠ 45) (r : List UInt8) : digsOf (b :: r) = b :: r := by
  have : (45 == b) = false := by simpa using fun e => h e.symm
  simp [digsOf, Lib.trimPrefix, Lib.hasPrefix, List.isPrefixOf, this]
theorem isNum_digs {l : List UInt8} (h : l ≠ [48]) : isNum l = (decide (1 ≤ (digsOf l).length) && (decide ((digsOf l).length ≤ 9) && (decide ((digsOf l).head? ≠ some 48) && (digsOf l).all digB))) := by
  cases l with
  | nil => rfl
  | cons b r =>
    by_cases hb : b = 45
    · subst hb
      rw [digsOf_neg]
      simp only [isNum, if_true, posN]
      by_cases h48 : r.head? = some 48
      · simp [h48]
      · simp [h48]
    · rw [digsOf_ne hb, isNum_ne hb]
      unfold posN
      by_cases h48 : (b :: r).head? = some 48
      · have e : b = 48 := by simpa using h48
        subst e
        have hr : r ≠ [] := fun e => h (by rw [e])
        have : ¬ ((48 :: r).length = 1) := by simpa using hr
        rw [decide_eq_false this, decide_eq_false (p := (48 :: r).head? ≠ some 48) (by simp)]
        simp
      · rw [decide_eq_true (p := (b :: r).head? ≠ some 48) h48]
        simp
theorem isNumber_any (s : ByteArray) (hs : s.size ≤ 1048576) (w : World) :
    Calls Tryz.prog 49 #[.string s] w fun e w' => e = .returned (.bool (isNum s.data.toList)) ∧ Below w.heap.size w w' := by
  by_cases h48 : s = ⟨#[48]⟩
  · subst h48
    go_enter Tryz.func49, Tryz.ntmps49
    go_wp2
    go_ret
    exact ⟨by rfl, Below.refl _ _⟩
  · have hl48 : s.data.toList ≠ [48] := fun e => h48 (ByteArray.ext (by rw [← Array.toArray_toList (xs := s.data), e]))
    have hne : (s.toList == [48]) = false := by rw [beq_eq_false_iff_ne, Go.ByteArray.toList_eq]; exact hl48
    have HI := Lib.hid (isNum_digs hl48)
    have HSL : s.data.toList.length = s.size := by rw [Array.length_toList]; rfl
    have hD : (digsOf s.data.toList).length ≤ s.size := by
      rw [← HSL]
      cases hl : s.data.toList with
      | nil => simp [digsOf, Lib.trimPrefix, Lib.hasPrefix, List.isPrefixOf]
      | cons b r =>
        by_cases hb : b = 45
        · subst hb; rw [digsOf_neg]; simp
        · rw [digsOf_ne hb]; exact Nat.le_refl _
    obtain ⟨T, hT⟩ : ∃ T : ByteArray, T = ⟨(digsOf s.data.toList).toArray⟩ := ⟨_, rfl⟩
    have HC := Lib.hid (strings_TrimPrefix s ⟨#[45]⟩)
    have hTl : T.data.toList = digsOf s.data.toList := by rw [hT]
    have hTs : T.size = (digsOf s.data.toList).length := by rw [hT]; simp [ByteArray.size]
    have HTl := Lib.hid hTl
    have HTs := Lib.hid hTs
    have HT := Lib.hid hT
    have hTb : T.size ≤ 1048576 := by omega
    clear h48 hl48 HSL hD hTl hTs hT
    go_enter Tryz.func49, Tryz.ntmps49
    go_wp2_with fail
    refine (HC.out _).mono ?_
    rintro e w1 ⟨rfl, hw1⟩
    have hw1 := hw1.symm
    subst hw1
    rw [show (⟨(Lib.trimPrefix s.data.toList (⟨#[45]⟩ : ByteArray).data.toList).toArray⟩ : ByteArray) = T from HT.out.symm]
    by_cases h1 : 1 ≤ T.size
    case neg =>
      have HF : Hid (isNum s.data.toList = false) := by show _ = _; rw [HI.out, decide_eq_false (p := 1 ≤ (digsOf s.data.toList).length) (by rw [← HTs.out]; exact h1)]; rfl
      have h1' : ¬ (1 : Int) ≤ (T.size : Int) := by omega
      go_wp2
      go_ret
      exact ⟨by rw [HF.out]; rfl, Below.refl _ _⟩
    have h1' : (1 : Int) ≤ (T.size : Int) := by omega
    by_cases h9 : T.size ≤ 9
    case neg =>
      have HF : Hid (isNum s.data.toList = false) := by show _ = _; rw [HI.out, decide_eq_false (p := (digsOf s.data.toList).length ≤ 9) (by rw [← HTs.out]; exact h9)]; simp
      have h9' : ¬ (T.size : Int) ≤ 9 := by omega
      go_wp2
      go_ret
      exact ⟨by rw [HF.out]; rfl, Below.refl _ _⟩
    have h9' : (T.size : Int) ≤ 9 := by omega
    have hp : 0 < T.size := by omega
    obtain ⟨b, hb⟩ : ∃ b, T[0] = b := ⟨_, rfl⟩
    have HHD : Hid ((digsOf s.data.toList).head? = some b) := by
      show _ = _
      have h2 := str_at T 0 hp (by rw [HTl.out, ← HTs.out]; exact hp)
      rw [← HTl.out]
      rw [List.head?_eq_getElem?, List.getElem?_eq_getElem (by rw [HTl.out, ← HTs.out]; exact hp), ← h2, hb]
    by_cases h0 : (b.toNat : Int) = 48
    case pos =>
      have hb48 : b = 48 := UInt8.toNat_inj.1 (by show b.toNat = 48; omega)
      have HF : Hid (isNum s.data.toList = false) := by show _ = _; rw [HI.out, HHD.out, hb48]; simp
      have h0' : ((b.toNat : Int) != 48) = false := by simpa using h0
      clear h0 hb48
      go_wp2
      go_ret
      exact ⟨by rw [HF.out]; rfl, Below.refl _ _⟩
    have h0' : ((b.toNat : Int) != 48) = true := by simpa using h0
    have nb : b ≠ 48 := fun e => h0 (by rw [e]; rfl)
    have HN : Hid (isNum s.data.toList = (digsOf s.data.toList).all digB) := by
      show _ = _
      rw [HI.out, HHD.out, decide_eq_true (p := 1 ≤ (digsOf s.data.toList).length) (by rw [← HTs.out]; exact h1), decide_eq_true (p := (digsOf s.data.toList).length ≤ 9) (by rw [← HTs.out]; exact h9)]
      simp [nb]
    have HTR := Lib.hid (Any.strings_Trim_laid lays160 (by kernel_rfl) T ⟨#[48, 49, 50, 51, 52, 53, 54, 55, 56, 57]⟩ w (by omega) (by decide) (ascii_of_all (by decide)))
    clear h0 nb h1 h9
    go_wp2_with fail
    refine HTR.out.mono ?_
    rintro e w1 ⟨rfl, hb1⟩
    have HB1 := Lib.hid hb1
    obtain ⟨U, hU⟩ : ∃ U : ByteArray, U = ⟨(Lib.trimS T.data.toList (⟨#[48, 49, 50, 51, 52, 53, 54, 55, 56, 57]⟩ : ByteArray).data.toList).toArray⟩ := ⟨_, rfl⟩
    rw [← hU]
    have HU : Hid (isNum s.data.toList = U.toList.isEmpty) := by
      show _ = _
      rw [HN.out, Go.ByteArray.toList_eq, hU, HTl.out]
      have := trimS_nil (digsOf s.data.toList)
      cases h : (digsOf s.data.toList).all digB
      · rw [h] at this
        have h2 : Lib.trimS (digsOf s.data.toList) digs ≠ [] := fun e => by simpa using this.1 e
        show false = (Lib.trimS (digsOf s.data.toList) digs).isEmpty
        cases h3 : Lib.trimS (digsOf s.data.toList) digs with
        | nil => exact absurd h3 h2
        | cons _ _ => rfl
      · have h2 := this.2 h
        show true = (Lib.trimS (digsOf s.data.toList) digs).isEmpty
        rw [h2]; rfl
    clear hb1 hU HTR
    go_wp2
    go_ret
    exact ⟨by rw [HU.out]; rfl, HB1.out⟩
end Go.Proofs.YtfgfdjcgfbodfaaGreatDoor
