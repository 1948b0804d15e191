/-
  The numbers of fields.
-/
import Derived.Test.YtfgfdjcgfbodfaaGreatDoorPis
import Derived.Test.YtfgfdjcgfbodfaaGreatDoorInts
import Derived.Test.YtfgfdjcgfbodfaaGreatDoorGen
import Derived.Test.YtfgfdjcgfbodfaaGreatDoorSrw
namespace Go.Proofs.YtfgfdjcgfbodfaaGreatDoor
open Go.RowKit
set_option linter.unusedSimpArgs false
set_option linter.unusedVariables false

theorem parseUintM_ok : ∀ (l : List UInt8) (acc : Nat), l.all digB = true → (acc + 1) * 10 ^ l.length ≤ 1000000000000 → Lib.parseUintM 18446744073709551615 acc l = .ok (l.foldl (fun v b => v * 10 + (b.toNat - 48)) acc) := by
  intro l
  induction l with
  | nil => intro acc _ _; rfl
  | cons b l ih =>
    intro acc h hb
    rw [List.all_cons, Bool.and_eq_true] at h
    have h1 := h.1
    simp only [digB, Bool.and_eq_true, decide_eq_true_eq] at h1
    have hpos : 1 ≤ 10 ^ l.length := Nat.one_le_pow _ _ (by omega)
    have hle : (acc + 1) * 10 ≤ (acc + 1) * 10 ^ (b :: l).length := Nat.mul_le_mul_left _ (by rw [List.length_cons, Nat.pow_succ]; omega)
    have hb2 : (acc * 10 + (b.toNat - 48) + 1) * 10 ^ l.length ≤ 1000000000000 := by
      refine Nat.le_trans (Nat.mul_le_mul_right _ (show acc * 10 + (b.toNat - 48) + 1 ≤ (acc + 1) * 10 by omega)) ?_
      rw [List.length_cons, Nat.pow_succ, Nat.mul_comm (10 ^ l.length) 10, ← Nat.mul_assoc] at hb
      exact hb
    unfold Lib.parseUintM
    rw [if_pos h1, if_neg (by omega), if_neg (by omega)]
    exact ih _ h.2 hb2
theorem parseUintB_ok {l : List UInt8} (h : l.all digB = true) (h1 : 1 ≤ l.length) (h9 : l.length ≤ 9) : Lib.parseUintB 64 l = .ok (natV l) := by
  unfold Lib.parseUintB
  rw [if_neg (by intro e; rw [e] at h1; simp at h1)]
  refine parseUintM_ok l 0 h ?_
  have h2 : 10 ^ l.length ≤ 10 ^ 9 := Nat.pow_le_pow_right (by omega) h9
  omega
theorem posN_facts {l : List UInt8} (h : posN l = true) : 1 ≤ l.length ∧ l.length ≤ 9 ∧ l.all digB = true := by
  unfold posN at h
  simp only [Bool.and_eq_true, decide_eq_true_eq] at h
  exact ⟨h.1, h.2.1, h.2.2.2⟩
theorem parseInt_ok {l : List UInt8} (h : isNum l = true) : Lib.parseIntB 64 l = .ok (numV l) := by
  cases l with
  | nil => simp [isNum] at h
  | cons b r =>
    by_cases hb : b = 45
    · subst hb
      simp only [isNum, if_true, Bool.and_eq_true] at h
      obtain ⟨p1, p2, p3⟩ := posN_facts h.1
      have hv := natV_9 p3 p2
      have e : Lib.parseUintB 64 r = .ok (natV r) := parseUintB_ok p3 p1 p2
      have c45 : (45 : UInt8).toNat = 45 := rfl
      simp only [Lib.parseIntB, c45, or_true, if_true, e, not_true_eq_false, false_and, true_and, if_false]
      rw [if_neg (by omega), numV_neg]
    · rw [isNum_ne hb] at h
      obtain ⟨p1, p2, p3⟩ := posN_facts h
      have hv := natV_9 p3 p2
      have e : Lib.parseUintB 64 (b :: r) = .ok (natV (b :: r)) := parseUintB_ok p3 p1 p2
      have hd : digB b = true := by rw [List.all_cons, Bool.and_eq_true] at p3; exact p3.1
      simp only [digB, Bool.and_eq_true, decide_eq_true_eq] at hd
      have n43 : ¬ (b.toNat = 43 ∨ b.toNat = 45) := by omega
      have n45 : ¬ b.toNat = 45 := by omega
      unfold Lib.parseIntB
      simp only []
      rw [if_neg n43, e]
      simp only [n45, not_false_eq_true, true_and, false_and, if_false]
      rw [if_neg (by omega), numV_ne hb]

/-- Pairs of bounds. -/
def bLo (bs : List (Int × Int)) (i : Nat) : Int := (bs[i]?.getD (0, 0)).1
def bHi (bs : List (Int × Int)) (i : Nat) : Int := (bs[i]?.getD (0, 0)).2
def BRow (w : World) (a : Option Addr) (m : Nat) (bs : List (Int × Int)) : Prop :=
  bs.length = m ∧ (m = 0 ∨ ∃ g, a = some ⟨g, 0, none⟩ ∧ ∀ i, i < m → w.cell? ⟨g, i * 2, none⟩ = some (.int .i64 (bLo bs i)) ∧ w.cell? ⟨g, i * 2 + 1, none⟩ = some (.int .i64 (bHi bs i)))
theorem BRow.below {w w' : World} {a : Option Addr} {m : Nat} {bs : List (Int × Int)} (h : BRow w a m bs) (hb : Below w.heap.size w w') : BRow w' a m bs := by
  refine ⟨h.1, h.2.imp id ?_⟩
  rintro ⟨g, rfl, hc⟩
  exact ⟨g, rfl, fun i hi => ⟨(hb.cell (World.block_lt_of_cell? w _ (hc i hi).1)).trans (hc i hi).1, (hb.cell (World.block_lt_of_cell? w _ (hc i hi).2)).trans (hc i hi).2⟩⟩
def holdB (bs : List (Int × Int)) (i : Nat) (v : Int) : Bool := decide (bs.length ≤ i) || (decide (bLo bs i ≤ v) && decide (v ≤ bHi bs i))
def fldOk (bs : List (Int × Int)) (ss : List ByteArray) (i : Nat) : Bool := isNum (sAt ss i).data.toList && holdB bs i (numV (sAt ss i).data.toList)
def leadOk (bs : List (Int × Int)) (ss : List ByteArray) : Bool := decide (bs.length ≤ ss.length) && (decide (ss.length ≤ 400) && (List.range ss.length).all (fldOk bs ss))
def numsOf (ss : List ByteArray) : List Int := ss.map fun s => numV s.data.toList
theorem numsOf_succ (ss : List ByteArray) (k : Nat) (h : k < ss.length) : numsOf (ss.take (k + 1)) = numsOf (ss.take k) ++ [numV (sAt ss k).data.toList] := by
  rw [List.take_succ_eq_append_getElem h]
  unfold numsOf sAt
  rw [List.getElem?_eq_getElem h, List.map_append]
  rfl
theorem lead_no {bs : List (Int × Int)} {ss : List ByteArray} (k : Nat) (hk : k < ss.length) (h : fldOk bs ss k = false) : leadOk bs ss = false := by
  unfold leadOk
  have : (List.range ss.length).all (fldOk bs ss) = false := by
    rw [List.all_eq_false]
    exact ⟨k, by simpa using hk, by rw [h]; simp⟩
  rw [this]; simp
theorem lead_yes {bs : List (Int × Int)} {ss : List ByteArray} (h1 : bs.length ≤ ss.length) (h2 : ss.length ≤ 400) (h : ∀ i, i < ss.length → fldOk bs ss i = true) : leadOk bs ss = true := by
  unfold leadOk
  rw [decide_eq_true h1, decide_eq_true h2]
  simp only [Bool.true_and, List.all_eq_true, List.mem_range]
  exact h
theorem hold_any (lo hi n : Int) (w : World) :
    Calls Tryz.prog 51 #[.agg #[.int .i64 lo, .int .i64 hi], .int .i64 n] w fun e w' => e = .returned (.bool (decide (lo ≤ n) && decide (n ≤ hi))) ∧ Below w.heap.size w w' := by
  have hb := fun o : Obj => (Below.refl w.heap.size w).alloc (Nat.le_refl _) o
  by_cases h1 : lo ≤ n
  · by_cases h2 : n ≤ hi
    · go_enter Tryz.func51, Tryz.ntmps51
      go_wp2
      go_ret
      exact ⟨by first | rfl | (simp; done) | (simp; omega), hb _⟩
    · go_enter Tryz.func51, Tryz.ntmps51
      go_wp2
      go_ret
      exact ⟨by first | rfl | (simp; done) | (simp; omega), hb _⟩
  · go_enter Tryz.func51, Tryz.ntmps51
    go_wp2
    go_ret
    exact ⟨by first | rfl | (simp; done) | (simp; omega), hb _⟩
end Go.Proofs.YtfgfdjcgfbodfaaGreatDoor
