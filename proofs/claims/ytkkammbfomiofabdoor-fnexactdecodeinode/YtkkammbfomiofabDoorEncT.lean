/-
  EncodeTable, the specification's and the program's.
-/
import Derived.Test.YtkkammbfomiofabDoorEnt
namespace Go.Proofs.YtkkammbfomiofabDoor
open Go.RowKit
set_option linter.unusedSimpArgs false
set_option linter.unusedVariables false

/-- A valid entry. -/
def veB (x : Int) (b : Bool) : Bool := decide (0 ≤ x) && (decide (x ≤ 32767) && (decide (x ≠ 0) || !b))
/-- The number of an entry. -/
def eNum (x : Int) (b : Bool) : Int := if b then x + 32768 else x
/-- The bytes of entries. -/
def eBytes (es : List (Int × Bool)) : List Int := es.flatMap fun e => beB (eNum e.1 e.2) 2
def eAll (es : List (Int × Bool)) : Bool := es.all fun e => veB e.1 e.2
def encT (es : List (Int × Bool)) : List Int := if es.length ≤ 1024 ∧ eAll es = true then eBytes es else []

theorem owns_below {w w' : World} {B e sz n : Nat} {s : Value} {xs : List Value} (h : w.ownsRow B e sz s n xs) (hb : Below w.heap.size w w') : w'.ownsRow B e sz s n xs :=
  h.kept (row := none) ⟨hb.os, hb.tape, hb.output, hb.size, fun k hk _ => hb.block k hk⟩ (by cases hv : s.ownBlock <;> simp)

theorem e_at (es : List (Int × Bool)) (k : Nat) (h : k < es.length) : es[k] = (eA es k, eI es k) := by simp [eA, eI, List.getElem?_eq_getElem h]
theorem eBytes_succ (es : List (Int × Bool)) (k : Nat) (h : k < es.length) : eBytes (es.take (k + 1)) = eBytes (es.take k) ++ beB (eNum (eA es k) (eI es k)) 2 := by
  rw [List.take_succ_eq_append_getElem h, e_at es k h]
  simp only [eBytes, List.flatMap_append, List.flatMap_cons, List.flatMap_nil, List.append_nil]
theorem eBytes_len (es : List (Int × Bool)) : (eBytes es).length = es.length * 2 := by
  induction es with
  | nil => rfl
  | cons e es ih => simp only [eBytes, List.flatMap_cons, List.length_append, beB_len, List.length_cons] at ih ⊢; omega
theorem eAll_succ (es : List (Int × Bool)) (k : Nat) (h : k < es.length) : eAll (es.take (k + 1)) = (eAll (es.take k) && veB (eA es k) (eI es k)) := by
  rw [List.take_succ_eq_append_getElem h, e_at es k h]
  simp [eAll]
theorem eAll_no (es : List (Int × Bool)) (k : Nat) (h : k < es.length) (hn : veB (eA es k) (eI es k) = false) : eAll es = false := by
  have e := eAll_succ es k h
  rw [hn, Bool.and_false] at e
  rw [← List.take_append_drop (k + 1) es]
  simp only [eAll, List.all_append, Bool.and_eq_false_iff] at e ⊢
  exact .inl e
theorem veB_bounds {x : Int} {b : Bool} (h : veB x b = true) : 0 ≤ x ∧ x ≤ 32767 := by
  simp only [veB, Bool.and_eq_true, decide_eq_true_eq] at h; exact ⟨h.1, h.2.1⟩
theorem eNum_bounds {x : Int} {b : Bool} (h0 : 0 ≤ x) (h1 : x ≤ 32767) : 0 ≤ eNum x b ∧ eNum x b ≤ 65535 := by
  unfold eNum; split <;> omega

end Go.Proofs.YtkkammbfomiofabDoor
