/-
  Choosing the best of a list: numbers alone.
-/
import Derived.WalkKit
namespace Go.Proofs.Ytkkammbfomiofaa
open Go.RowKit
set_option linter.unusedSimpArgs false
set_option linter.unusedVariables false

/-- The counts that fit, with their numbers. -/
def candL (fit : Nat → Bool) (cs : List Int) (k : Nat) : List (Int × Int) := ((List.range k).filter fit).map fun i : Nat => ((i : Int), cs[i]?.getD 0)
theorem candL_yes {fit : Nat → Bool} (cs : List Int) {k : Nat} (h : fit k = true) : candL fit cs (k + 1) = candL fit cs k ++ [((k : Int), cs[k]?.getD 0)] := by
  simp [candL, List.range_succ, List.filter_append, h]
theorem candL_no {fit : Nat → Bool} (cs : List Int) {k : Nat} (h : fit k = false) : candL fit cs (k + 1) = candL fit cs k := by
  simp [candL, List.range_succ, List.filter_append, h]
theorem candL_len (fit : Nat → Bool) (cs : List Int) (k : Nat) : (candL fit cs k).length ≤ k := by
  simp only [candL, List.length_map]
  exact Nat.le_trans (List.length_filter_le _ _) (by simp)

def stepO (lt : Int × Int → Int × Int → Bool) (o : Option (Int × Int)) (x : Int × Int) : Option (Int × Int) :=
  match o with
  | none => some x
  | some k => if lt x k then some x else some k
theorem stepO_lt {lt : Int × Int → Int × Int → Bool} {x k : Int × Int} (h : lt x k = true) : stepO lt (some k) x = some x := by simp [stepO, h]
theorem stepO_ge {lt : Int × Int → Int × Int → Bool} {x k : Int × Int} (h : lt x k = false) : stepO lt (some k) x = some k := by simp [stepO, h]
def bestO (lt : Int × Int → Int × Int → Bool) (l : List (Int × Int)) : Option (Int × Int) := l.foldl (stepO lt) none
theorem bestO_app (lt : Int × Int → Int × Int → Bool) (l : List (Int × Int)) (x : Int × Int) : bestO lt (l ++ [x]) = stepO lt (bestO lt l) x := by simp [bestO]
theorem bestO_take (lt : Int × Int → Int × Int → Bool) (l : List (Int × Int)) (k : Nat) (h : k < l.length) : bestO lt (l.take (k + 1)) = stepO lt (bestO lt (l.take k)) (l[k]?.getD (0, 0)) := by
  rw [List.take_succ_eq_append_getElem h, bestO_app, List.getElem?_eq_getElem h]; rfl
def numO (o : Option (Int × Int)) : Int := match o with | none => -1 | some p => p.1

/-- v is the number of the best that fits: the least count, then the least number; -1 if none fits. -/
def Best (fit : Nat → Bool) (cs : List Int) (n : Nat) (v : Int) : Prop :=
  (v = -1 ∧ ∀ j, j < n → fit j = false) ∨ ∃ i, i < n ∧ v = (i : Int) ∧ fit i = true ∧ ∀ j, j < n → fit j = true → cs[i]?.getD 0 < cs[j]?.getD 0 ∨ (cs[i]?.getD 0 = cs[j]?.getD 0 ∧ i ≤ j)
theorem Best.unique {fit : Nat → Bool} {cs : List Int} {n : Nat} {v u : Int} (h : Best fit cs n v) (k : Best fit cs n u) : v = u := by
  rcases h with ⟨rfl, h⟩ | ⟨i, hi, rfl, hf, hm⟩
  · rcases k with ⟨rfl, _⟩ | ⟨j, hj, rfl, hg, _⟩
    · rfl
    · rw [h j hj] at hg; cases hg
  · rcases k with ⟨rfl, k⟩ | ⟨j, hj, rfl, hg, km⟩
    · rw [k i hi] at hf; cases hf
    · have a := hm j hj hg
      have b := km i hi hf
      omega

def ltN (a b : Int × Int) : Bool := decide (a.1 < b.1)
def ltC (a b : Int × Int) : Bool := decide (a.2 < b.2)

theorem best_ltC (fit : Nat → Bool) (cs : List Int) (k : Nat) :
    (bestO ltC (candL fit cs k) = none ∧ ∀ j, j < k → fit j = false) ∨ ∃ i, i < k ∧ bestO ltC (candL fit cs k) = some ((i : Int), cs[i]?.getD 0) ∧ fit i = true ∧ ∀ j, j < k → fit j = true → cs[i]?.getD 0 < cs[j]?.getD 0 ∨ (cs[i]?.getD 0 = cs[j]?.getD 0 ∧ i ≤ j) := by
  induction k with
  | zero => exact .inl ⟨rfl, fun j hj => by omega⟩
  | succ k ih =>
    cases hf : fit k
    · rw [candL_no cs hf]
      rcases ih with ⟨e, h⟩ | ⟨i, hi, e, hfi, h⟩
      · refine .inl ⟨e, fun j hj => ?_⟩
        by_cases q : j = k
        · rw [q]; exact hf
        · exact h j (by omega)
      · refine .inr ⟨i, by omega, e, hfi, fun j hj hj2 => ?_⟩
        by_cases q : j = k
        · rw [q, hf] at hj2; cases hj2
        · exact h j (by omega) hj2
    · rw [candL_yes cs hf, bestO_app]
      rcases ih with ⟨e, h⟩ | ⟨i, hi, e, hfi, h⟩
      · rw [e]
        refine .inr ⟨k, by omega, rfl, hf, fun j hj hj2 => ?_⟩
        by_cases q : j = k
        · rw [q]; exact .inr ⟨rfl, Nat.le_refl _⟩
        · rw [h j (by omega)] at hj2; cases hj2
      · rw [e]
        by_cases c : cs[k]?.getD 0 < cs[i]?.getD 0
        · rw [stepO_lt (decide_eq_true c)]
          refine .inr ⟨k, by omega, rfl, hf, fun j hj hj2 => ?_⟩
          by_cases q : j = k
          · rw [q]; exact .inr ⟨rfl, Nat.le_refl _⟩
          · have := h j (by omega) hj2; omega
        · rw [stepO_ge (decide_eq_false c)]
          refine .inr ⟨i, by omega, rfl, hfi, fun j hj hj2 => ?_⟩
          by_cases q : j = k
          · rw [q]; omega
          · exact h j (by omega) hj2
theorem best_ltN (fit : Nat → Bool) (cs : List Int) (k : Nat) :
    (bestO ltN (candL fit cs k) = none ∧ ∀ j, j < k → fit j = false) ∨ ∃ i, i < k ∧ bestO ltN (candL fit cs k) = some ((i : Int), cs[i]?.getD 0) ∧ fit i = true ∧ ∀ j, j < k → fit j = true → i ≤ j := by
  induction k with
  | zero => exact .inl ⟨rfl, fun j hj => by omega⟩
  | succ k ih =>
    cases hf : fit k
    · rw [candL_no cs hf]
      rcases ih with ⟨e, h⟩ | ⟨i, hi, e, hfi, h⟩
      · refine .inl ⟨e, fun j hj => ?_⟩
        by_cases q : j = k
        · rw [q]; exact hf
        · exact h j (by omega)
      · refine .inr ⟨i, by omega, e, hfi, fun j hj hj2 => ?_⟩
        by_cases q : j = k
        · rw [q, hf] at hj2; cases hj2
        · exact h j (by omega) hj2
    · rw [candL_yes cs hf, bestO_app]
      rcases ih with ⟨e, h⟩ | ⟨i, hi, e, hfi, h⟩
      · rw [e]
        refine .inr ⟨k, by omega, rfl, hf, fun j hj hj2 => ?_⟩
        by_cases q : j = k
        · omega
        · rw [h j (by omega)] at hj2; cases hj2
      · rw [e]
        rw [stepO_ge (decide_eq_false (by show ¬ ((k : Int) < (i : Int)); omega))]
        refine .inr ⟨i, by omega, rfl, hfi, fun j hj hj2 => ?_⟩
        by_cases q : j = k
        · omega
        · exact h j (by omega) hj2

/-- What fits as a free segment, as a victim. -/
def fitF (cs : List Int) (act : Int) (i : Nat) : Bool := decide ((i : Int) ≠ act) && decide (cs[i]?.getD 0 = 0)
def fitV (cs : List Int) (act sb : Int) (i : Nat) : Bool := decide ((i : Int) ≠ act) && (decide (1 ≤ cs[i]?.getD 0) && decide (cs[i]?.getD 0 < sb))

theorem best_free (cs : List Int) (act : Int) (n : Nat) : Best (fitF cs act) cs n (numO (bestO ltN (candL (fitF cs act) cs n))) := by
  rcases best_ltN (fitF cs act) cs n with ⟨e, h⟩ | ⟨i, hi, e, hf, h⟩
  · rw [e]; exact .inl ⟨rfl, h⟩
  · rw [e]
    refine .inr ⟨i, hi, rfl, hf, fun j hj hj2 => .inr ⟨?_, h j hj hj2⟩⟩
    simp only [fitF, Bool.and_eq_true, decide_eq_true_eq] at hf hj2
    rw [hf.2, hj2.2]
theorem best_victim (cs : List Int) (act sb : Int) (n : Nat) : Best (fitV cs act sb) cs n (numO (bestO ltC (candL (fitV cs act sb) cs n))) := by
  rcases best_ltC (fitV cs act sb) cs n with ⟨e, h⟩ | ⟨i, hi, e, hf, h⟩
  · rw [e]; exact .inl ⟨rfl, h⟩
  · rw [e]; exact .inr ⟨i, hi, rfl, hf, h⟩
end Go.Proofs.Ytkkammbfomiofaa
