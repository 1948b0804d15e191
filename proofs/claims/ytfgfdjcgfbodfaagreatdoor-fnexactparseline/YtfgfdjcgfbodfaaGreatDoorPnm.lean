/-
  Numbers of a line.
-/
import Derived.Test.YtfgfdjcgfbodfaaGreatDoorBytes
import Derived.Lib.Hide
import Derived.Lib.Strings
import Derived.Laws.IdiomStrings
namespace Go.Proofs.YtfgfdjcgfbodfaaGreatDoor
open Go.RowKit
set_option linter.unusedSimpArgs false
set_option linter.unusedVariables false

def digB (b : UInt8) : Bool := decide (48 ≤ b.toNat) && decide (b.toNat ≤ 57)
def natV (l : List UInt8) : Nat := l.foldl (fun v b => v * 10 + (b.toNat - 48)) 0
def posN (l : List UInt8) : Bool := decide (1 ≤ l.length) && (decide (l.length ≤ 9) && ((decide (l.length = 1) || decide (l.head? ≠ some 48)) && l.all digB))
def isNum : List UInt8 → Bool
  | [] => false
  | b :: r => if b = 45 then posN r && decide (r.head? ≠ some 48) else posN (b :: r)
def numV : List UInt8 → Int
  | [] => 0
  | b :: r => if b = 45 then -(natV r : Int) else natV (b :: r)
theorem natV_snoc (l : List UInt8) (b : UInt8) : natV (l ++ [b]) = natV l * 10 + (b.toNat - 48) := by simp [natV]
theorem natV_go (l : List UInt8) : ∀ a : Nat, l.all digB = true → l.foldl (fun v b => v * 10 + (b.toNat - 48)) a < (a + 1) * 10 ^ l.length := by
  induction l with
  | nil => intro a _; simp
  | cons b l ih =>
    intro a h
    rw [List.all_cons, Bool.and_eq_true] at h
    have h2 := h.1
    simp only [digB, Bool.and_eq_true, decide_eq_true_eq] at h2
    have h1 := ih (a * 10 + (b.toNat - 48)) h.2
    rw [List.foldl_cons, List.length_cons, Nat.pow_succ]
    refine Nat.lt_of_lt_of_le h1 ?_
    rw [Nat.mul_comm (10 ^ l.length) 10, ← Nat.mul_assoc]
    exact Nat.mul_le_mul_right _ (by omega)
theorem natV_lt (l : List UInt8) (h : l.all digB = true) : natV l < 10 ^ l.length := by
  have := natV_go l 0 h
  simpa [natV] using this
theorem natV_9 {l : List UInt8} (h : l.all digB = true) (hl : l.length ≤ 9) : natV l < 1000000000 := by
  have h1 := natV_lt l h
  have h2 : 10 ^ l.length ≤ 10 ^ 9 := Nat.pow_le_pow_right (by omega) hl
  omega
theorem take_next {l : List UInt8} {k : Nat} (h : k < l.length) : l.take (k + 1) = l.take k ++ [l[k]] := List.take_succ_eq_append_getElem h
theorem extract_tail (s : ByteArray) {b : UInt8} {r : List UInt8} (h : s.data.toList = b :: r) : (s.extract 1 s.size).data.toList = r := by
  have hz : s.size = s.data.size := rfl
  have : (s.extract 1 s.size).data = s.data.extract 1 s.size := by
    rw [ByteArray.data_extract]
  rw [this, Array.toList_extract, hz, ← Array.length_toList, h]
  simp
theorem str_at (s : ByteArray) (k : Nat) (h : k < s.size) (h' : k < s.data.toList.length) : s[k] = s.data.toList[k] := by simp; rfl
theorem isNum_ne {b : UInt8} (h : b ≠ 45) (r : List UInt8) : isNum (b :: r) = posN (b :: r) := if_neg h
theorem numV_ne {b : UInt8} (h : b ≠ 45) (r : List UInt8) : numV (b :: r) = natV (b :: r) := if_neg h
theorem numV_neg (r : List UInt8) : numV (45 :: r) = -(natV r : Int) := by simp [numV]
theorem posN_all {l : List UInt8} (h1 : 1 ≤ l.length) (h9 : l.length ≤ 9) (h0 : l.length = 1 ∨ l.head? ≠ some 48) : posN l = l.all digB := by
  unfold posN
  rw [decide_eq_true h1, decide_eq_true h9]
  rcases h0 with h0 | h0
  · rw [decide_eq_true h0]; simp
  · rw [decide_eq_true h0]; simp
theorem all_false_of {l : List UInt8} (k : Nat) (h : (l.take k).all digB = false) : l.all digB = false := by
  rw [← List.take_append_drop k l, List.all_append, h]
  rfl
theorem isNum_neg (r : List UInt8) : isNum (45 :: r) = (isNum r && (decide (r.head? ≠ some 48) && decide (r.head? ≠ some 45))) := by
  cases r with
  | nil => rfl
  | cons b r =>
    simp only [isNum, if_true, List.head?_cons, ne_eq, Option.some.injEq]
    by_cases h : b = 45
    · subst h
      rw [if_pos rfl]
      have : posN (45 :: r) = false := by
        unfold posN
        have : (45 :: r).all digB = false := by simp [digB]
        rw [this]; simp
      rw [this]; simp
    · rw [if_neg h]
      simp [h]

set_option maxHeartbeats 4000000 in
set_option maxRecDepth 100000 in
theorem num_spec : ∀ (m : Nat) (s : ByteArray), s.size < m → s.size ≤ 1048576 → ∀ w : World,
    Calls Tryz.prog 25 #[.string s] w fun e w' => ∃ v : Int, e = .returned (.tuple #[.int .i64 v, .bool (isNum s.data.toList)]) ∧ (isNum s.data.toList = true → v = numV s.data.toList) ∧ -1000000000 ≤ v ∧ v ≤ 1000000000 ∧ Below w.heap.size w w' := by
  intro m
  induction m with
  | zero => intro s h; omega
  | succ m ih =>
    intro s hm hs w
    have HSL : Hid (s.data.toList.length = s.size) := by show _ = _; rw [Array.length_toList]; rfl
    by_cases hz : s.size = 0
    · obtain rfl : s = ⟨#[]⟩ := ByteArray.ext (Array.eq_empty_of_size_eq_zero hz)
      clear ih
      go_enter Tryz.func25, Tryz.ntmps25
      go_wp2
      go_ret2
      exact ⟨0, rfl, fun h => by simp [isNum] at h, by omega, by omega, Below.refl _ _⟩
    have hp : 0 < s.size := by omega
    obtain ⟨b, r, hbr⟩ : ∃ b r, s.data.toList = b :: r := by
      cases h : s.data.toList with
      | nil => have := HSL.out; rw [h] at this; simp at this; omega
      | cons b r => exact ⟨b, r, rfl⟩
    have hb0 : s[0] = b := by rw [str_at s 0 hp (by rw [HSL.out]; exact hp)]; simp [hbr]
    have hrl : s.size = r.length + 1 := by have := HSL.out; rw [hbr] at this; simpa using this.symm
    have HBR := Lib.hid hbr
    by_cases hA : 1 < s.size ∧ (b.toNat : Int) = 45
    · obtain ⟨hA1, hA2⟩ := hA
      have hb45 : b = 45 := by have : b.toNat = 45 := by omega
                               exact UInt8.toNat_inj.1 this
      subst hb45
      have HC := Lib.hid (fun w => ih (s.extract 1 s.size) (by simp; omega) (by simp; omega) w)
      have HEX := Lib.hid (extract_tail s hbr)
      have hA' : (1 : Int) < (s.size : Int) := by omega
      have e45 : (((45 : UInt8).toNat : Int) == 45) = true := rfl
      clear ih hbr hrl
      go_enter Tryz.func25, Tryz.ntmps25
      go_wp2_with fail
      refine (HC.out _).mono ?_
      rw [HEX.out]
      rintro e w1 ⟨v, rfl, hv, hv0, hv1, hb1⟩
      have HB1 := Lib.hid hb1
      clear hb1
      have hr0 : 0 < r.length := by have := HSL.out; rw [HBR.out, List.length_cons] at this; omega
      obtain ⟨c, r', hcr⟩ : ∃ c r', r = c :: r' := by
        cases r with
        | nil => simp at hr0
        | cons c r' => exact ⟨c, r', rfl⟩
      have hc1 : s[1] = c := by rw [str_at s 1 hA1 (by rw [HSL.out]; exact hA1)]; simp [HBR.out, hcr]
      have HN := Lib.hid (isNum_neg r)
      have HV := Lib.hid hv
      have HCR := Lib.hid hcr
      have hneg : Hid (-v = IntKind.i64.wrap (-v)) := by show _ = _; simp [IntKind.wrap, IntKind.signed, IntKind.bits]; omega
      clear hv hcr HC
      cases hok : isNum r
      · have HF : Hid (isNum s.data.toList = false) := by show _ = _; rw [HBR.out, HN.out, hok]; rfl
        go_wp2
        go_quiet (fail)
        go_wp2
        go_ret2
        exact ⟨-v, by rw [HF.out]; rfl, (fun h => by rw [HF.out] at h; cases h), by omega, by omega, by first | exact below_drewN HB1.out _ | exact HB1.out.drew | exact HB1.out⟩
      · have hvv : v = numV r := HV.out hok
        by_cases h48 : (c.toNat : Int) = 48
        · have h48' : ((c.toNat : Int) != 48) = false := by simpa using h48
          have HF : Hid (isNum s.data.toList = false) := by
            show _ = _
            rw [HBR.out, HN.out, HCR.out]
            have : c = 48 := UInt8.toNat_inj.1 (by show c.toNat = 48; omega)
            subst this
            simp
          clear h48 hvv
          go_wp2
          go_quiet (fail)
          go_wp2
          go_ret2
          exact ⟨-v, by rw [HF.out]; rfl, (fun h => by rw [HF.out] at h; cases h), by omega, by omega, by first | exact below_drewN HB1.out _ | exact HB1.out.drew | exact HB1.out⟩
        · have h48' : ((c.toNat : Int) != 48) = true := by simpa using h48
          by_cases h45 : (c.toNat : Int) = 45
          · have h45' : ((c.toNat : Int) != 45) = false := by simpa using h45
            have HF : Hid (isNum s.data.toList = false) := by
              show _ = _
              rw [HBR.out, HN.out, HCR.out]
              have : c = 45 := UInt8.toNat_inj.1 (by show c.toNat = 45; omega)
              subst this
              simp
            clear h48 h45 hvv
            go_wp2
            go_quiet (fail)
            go_wp2
            go_ret2
            exact ⟨-v, by rw [HF.out]; rfl, (fun h => by rw [HF.out] at h; cases h), by omega, by omega, by first | exact below_drewN HB1.out _ | exact HB1.out.drew | exact HB1.out⟩
          · have h45' : ((c.toNat : Int) != 45) = true := by simpa using h45
            have n48 : c ≠ 48 := fun e => h48 (by rw [e]; rfl)
            have n45 : c ≠ 45 := fun e => h45 (by rw [e]; rfl)
            have HF : Hid (isNum s.data.toList = true ∧ numV s.data.toList = -v) := by
              rw [HBR.out]
              refine ⟨?_, ?_⟩
              · rw [HN.out, hok, HCR.out]; simp [n48, n45]
              · rw [hvv, HCR.out]
                rw [numV_neg, numV_ne n45]
            clear h48 h45 hvv n48 n45
            go_wp2
            go_quiet (fail)
            go_wp2
            go_ret2
            exact ⟨-v, by rw [HF.out.1]; rfl, fun _ => HF.out.2.symm, by omega, by omega, by first | exact below_drewN HB1.out _ | exact HB1.out.drew | exact HB1.out⟩
    · have hg1 : Hid (∀ v : Bool, (1 < s.size ∧ (b.toNat : Int) = 45) → False) := fun _ h => hA h
      have hdisj : ¬ (1 : Int) < (s.size : Int) ∨ ((b.toNat : Int) == 45) = false := by
        by_cases h1 : 1 < s.size
        · exact .inr (by simp; intro h; exact hA ⟨h1, by omega⟩)
        · exact .inl (by omega)
      clear ih hA hg1
      by_cases h9 : 9 < s.size
      · have h9' : (9 : Int) < (s.size : Int) := by omega
        have h45 : ((b.toNat : Int) == 45) = false := by rcases hdisj with h | h
                                                         · omega
                                                         · exact h
        have HF : Hid (isNum s.data.toList = false) := by
          show _ = _
          rw [HBR.out]
          have nb : b ≠ 45 := fun e => by rw [e] at h45; simp at h45
          rw [isNum_ne nb]
          unfold posN
          rw [List.length_cons, decide_eq_false (p := r.length + 1 ≤ 9) (by omega)]
          simp
        clear hdisj hbr hrl
        go_enter Tryz.func25, Tryz.ntmps25
        go_wp2
        all_goals
          go_ret2
          exact ⟨0, by rw [HF.out]; rfl, (fun h => by rw [HF.out] at h; cases h), by omega, by omega, Below.refl _ _⟩
      · have HALL : Hid (∀ l : List UInt8, l.length ≤ 9 → l.all digB = true → natV l < 1000000000) := fun l h1 h2 => natV_9 h2 h1
        have h9' : ¬ (9 : Int) < (s.size : Int) := by omega
        have hs0 : ((s.size : Int) == 0) = false := by rw [beq_eq_false_iff_ne]; omega
        clear h9
        by_cases h1 : 1 < s.size
        case' pos =>
          have h1' : (1 : Int) < (s.size : Int) := by omega
          have h45 : ((b.toNat : Int) == 45) = false := by rcases hdisj with h | h
                                                           · omega
                                                           · exact h
          have nb : b ≠ 45 := fun e => by rw [e] at h45; simp at h45
          by_cases e48 : b = 48
          case pos =>
            have HF : Hid (isNum s.data.toList = false) := by
              show _ = _
              rw [HBR.out, isNum_ne nb]
              unfold posN
              rw [List.length_cons, decide_eq_false (p := r.length + 1 = 1) (by omega), e48]
              simp
            have h48 : ((b.toNat : Int) == 48) = true := by rw [e48]; rfl
            clear hdisj hbr nb e48 hrl
            go_enter Tryz.func25, Tryz.ntmps25
            go_wp2
            go_ret2
            exact ⟨0, by rw [HF.out]; rfl, (fun h => by rw [HF.out] at h; cases h), by omega, by omega, Below.refl _ _⟩
          case' neg =>
            have h48 : ((b.toNat : Int) == 48) = false := by simp; intro h; exact e48 (UInt8.toNat_inj.1 (by show b.toNat = 48; omega))
            have HN : Hid (isNum s.data.toList = s.data.toList.all digB ∧ (s.data.toList.all digB = true → numV s.data.toList = natV s.data.toList)) := by
              rw [HBR.out]
              exact ⟨by rw [isNum_ne nb]; exact posN_all (by simp) (by rw [List.length_cons]; omega) (.inr (by simpa using e48)), fun _ => numV_ne nb r⟩
            clear hdisj hbr nb e48 hrl
            go_enter Tryz.func25, Tryz.ntmps25
            go_wp2_with fail
        case' neg =>
          have h1' : ¬ (1 : Int) < (s.size : Int) := by omega
          have HN : Hid (isNum s.data.toList = s.data.toList.all digB ∧ (s.data.toList.all digB = true → numV s.data.toList = natV s.data.toList)) := by
            rw [HBR.out]
            obtain rfl : r = [] := List.length_eq_zero_iff.1 (by omega)
            by_cases nb : b = 45
            · subst nb; exact (show isNum [45] = [45].all digB ∧ ([45].all digB = true → numV [45] = natV [45]) by decide)
            · exact ⟨by rw [isNum_ne nb]; exact posN_all (by simp) (by simp) (.inl rfl), fun _ => numV_ne nb []⟩
          by_cases e48 : b = 48
          case' pos => have h48 : ((b.toNat : Int) == 48) = true := by rw [e48]; rfl
          case' neg => have h48 : ((b.toNat : Int) == 48) = false := by simp; intro h; exact e48 (UInt8.toNat_inj.1 (by show b.toNat = 48; omega))
          all_goals
            clear hdisj hbr e48 hrl
            go_enter Tryz.func25, Tryz.ntmps25
            go_wp2_with fail
        all_goals
          go_loopw [6, 7] (fun v i wr => ∃ k : Nat, k ≤ s.size ∧ i = .int .i64 k ∧ ∃ x : Nat, v = .int .i64 x ∧ x < 1000000000 ∧ Hid (x = natV (s.data.toList.take k) ∧ (s.data.toList.take k).all digB = true) ∧ wr = w) (fun _ i _ => s.size - (intOf i).toNat)
          case atStart => exact ⟨0, Nat.zero_le _, rfl, 0, rfl, by omega, ⟨by simp [natV], by simp⟩, rfl⟩
          case round =>
            obtain ⟨k, hk, rfl, x, rfl, hx, HR, rfl⟩ := hrel
            by_cases hlt : k < s.size
            · have hlt' : (k : Int) < (s.size : Int) := by omega
              have h0' : (0 : Int) ≤ (k : Int) := by omega
              have HSA := Lib.hid (str_at s k hlt (by rw [HSL.out]; exact hlt))
              have HT := Lib.hid (take_next (l := s.data.toList) (k := k) (by rw [HSL.out]; exact hlt))
              have HD := Lib.hid (show ∀ c : UInt8, s.data.toList[k]'(by rw [HSL.out]; exact hlt) = c → (((s.data.toList.take (k + 1)).all digB = ((s.data.toList.take k).all digB && digB c)) ∧ natV (s.data.toList.take (k + 1)) = natV (s.data.toList.take k) * 10 + (c.toNat - 48)) from fun c hc => by rw [HT.out, hc]; exact ⟨by simp, natV_snoc _ _⟩)
              obtain ⟨c, hcc⟩ : ∃ c, s[k] = c := ⟨_, rfl⟩
              have HDC := Lib.hid (HD.out c (HSA.out.symm.trans hcc))
              have hc255 : (c.toNat : Int) ≤ 255 := by have := c.toNat_lt; omega
              clear HD HT HSA
              by_cases hlo : (c.toNat : Int) < 48
              · have HF : Hid (isNum s.data.toList = false) := by
                  show _ = _
                  rw [HN.out.1]
                  exact all_false_of (k + 1) (by rw [HDC.out.1]; simp [digB]; omega)
                go_wp2
                go_ret2
                exact ⟨0, by rw [HF.out]; rfl, (fun h => by rw [HF.out] at h; cases h), by omega, by omega, Below.refl _ _⟩
              by_cases hhi : 57 < (c.toNat : Int)
              · have HF : Hid (isNum s.data.toList = false) := by
                  show _ = _
                  rw [HN.out.1]
                  exact all_false_of (k + 1) (by rw [HDC.out.1]; simp [digB]; omega)
                go_wp2
                go_ret2
                exact ⟨0, by rw [HF.out]; rfl, (fun h => by rw [HF.out] at h; cases h), by omega, by omega, Below.refl _ _⟩
              · have HR2 : Hid ((x * 10 + (c.toNat - 48)) = natV (s.data.toList.take (k + 1)) ∧ (s.data.toList.take (k + 1)).all digB = true) := by
                  refine ⟨by rw [HDC.out.2, HR.out.1], ?_⟩
                  rw [HDC.out.1, HR.out.2]
                  simp [digB]
                  omega
                have hx2 : x * 10 + (c.toNat - 48) < 1000000000 := by rw [HR2.out.1]; exact HALL.out _ (by rw [List.length_take, HSL.out]; omega) HR2.out.2
                clear HR HDC
                go_wp2
                go_roundw
                case rel => exact ⟨k + 1, by omega, by go_num, x * 10 + (c.toNat - 48), by go_num, hx2, HR2, trivial⟩
                case measure => simp [intOf]; omega
            · have HF : Hid (isNum s.data.toList = true ∧ numV s.data.toList = x) := by
                have h := HR.out
                rw [List.take_of_length_le (by rw [HSL.out]; omega)] at h
                exact ⟨by rw [HN.out.1]; exact h.2, by rw [HN.out.2 h.2, h.1]⟩
              clear HR
              go_wp2
              go_ret2
              exact ⟨x, by rw [HF.out.1]; rfl, fun _ => HF.out.2.symm, by omega, by omega, Below.refl _ _⟩
end Go.Proofs.YtfgfdjcgfbodfaaGreatDoor
