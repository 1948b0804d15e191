/-
  Ts, Tl.
-/
import Derived.Test.YtkkammbfomiofaaDoorTb
import Derived.Test.YtkkammbfomiofaaDoorGg
/-
  The specification's DecodeTable.
-/
namespace Go.Proofs.YtkkammbfomiofaaDoor
open Go.RowKit
set_option linter.unusedSimpArgs false
set_option linter.unusedVariables false

theorem heap_two {w : World} {r : Nat} {v0 v1 v : Value} {t : TypeId} (h : w.heap[r]? = some (.cells #[v0, v1] t (0, 0))) : (w.setCell ⟨r, 1, none⟩ v).heap[r]? = some (.cells #[v0, v] t (0, 0)) := by
  simp [World.setCell, Array.getElem?_modify, h]
theorem irow_two {w : World} {g off n : Nat} {xs : List Int} (h : IRow .u8 w (some ⟨g, off, none⟩) n xs) (k : Nat) (hk : 2 * k + 2 ≤ n) : IRow .u8 w (some ⟨g, off + 2 * k, none⟩) 2 ((xs.drop (2 * k)).take 2) := by
  obtain ⟨h1, h2⟩ := h
  refine ⟨by simp [h1]; omega, ?_⟩
  rcases h2 with h2 | ⟨g', off', e, hc⟩
  · omega
  · injection e with e
    injection e with e1 e2 e3
    subst e1; subst e2
    refine .inr ⟨g, off + 2 * k, rfl, fun i hi => ?_⟩
    rw [Nat.add_assoc, hc (2 * k + i) (by omega), List.getElem?_take, if_pos hi, List.getElem?_drop]

end Go.Proofs.YtkkammbfomiofaaDoor

/-
  FnExactDecodeTable: the law's walk.
-/
namespace Go.Proofs.YtkkammbfomiofaaDoor
open Go.RowKit
set_option linter.unusedSimpArgs false
set_option linter.unusedVariables false

theorem eC_len (es : List (Int × Bool)) : (eC es).length = es.length * 2 := by
  induction es with
  | nil => rfl
  | cons x es ih => simp only [eC, List.flatMap_cons, List.length_append, List.length_cons, List.length_nil] at ih ⊢; omega
theorem eC_at (es : List (Int × Bool)) : ∀ i, i < es.length → (eC es)[i * 2]? = some (.int .i64 (eA es i)) ∧ (eC es)[i * 2 + 1]? = some (.bool (eI es i)) := by
  induction es with
  | nil => intro i h; simp at h
  | cons x es ih =>
    intro i h
    cases i with
    | zero => simp [eC, eA, eI]
    | succ i =>
      have := ih i (by simpa using h)
      have e1 : (i + 1) * 2 = i * 2 + 1 + 1 := by omega
      have e2 : (i + 1) * 2 + 1 = i * 2 + 1 + 1 + 1 := by omega
      rw [e1]
      simpa [eC, eA, eI] using this
theorem owns_e {w : World} {B n : Nat} {s : Value} {es : List (Int × Bool)} (h : w.ownsRow B 38 2 s n (eC es)) : ∃ a c, s = .slice a n c ∧ EOwn (fun g => B ≤ g ∧ g < w.heap.size) w a n es := by
  have hl : es.length = n := by have := h.1; rw [eC_len] at this; omega
  have h' := h
  rcases h.2 with ⟨rfl, h0⟩ | ⟨g, cap, cur, rfl, hB, hg, hc, hm, hsz, ht⟩
  · exact ⟨none, 0, by rw [h0], hl, .inl h0⟩
  · refine ⟨some ⟨g, 0, none⟩, cap, rfl, hl, .inr ⟨g, 0, rfl, ⟨hB, (Array.getElem?_eq_some_iff.1 hg).1⟩, fun i hi => ?_⟩⟩
    obtain ⟨q1, q2⟩ := eC_at es i (by omega)
    rw [Nat.zero_add]
    exact ⟨⟨by rw [h'.cellAt _ (by omega)]; exact q1, h'.frozenAt _⟩, by rw [h'.cellAt _ (by omega)]; exact q2, h'.frozenAt _⟩

/-- The table that is decoded. -/
def tabE (xs : List Int) : List (Int × Bool) := if tabB xs = true then ents xs (xs.length / 2) else []
theorem tabE_len (xs : List Int) : (tabE xs).length ≤ 1024 := by
  unfold tabE
  split
  · rename_i h
    unfold tabB at h
    simp only [Bool.and_eq_true, decide_eq_true_eq] at h
    simp [ents]; omega
  · simp
theorem tab_shape {xs : List Int} {n : Nat} (hl : xs.length = n) {w w' : World} {B : Nat} {v : Value} (h1 : tabB xs = true → w'.ownsRow B 38 2 v (n / 2) (eC (ents xs (n / 2)))) (h2 : tabB xs = false → v = .slice none 0 0) :
    ∃ a' c', v = .slice a' (tabE xs).length c' ∧ EOwn (fun g => B ≤ g ∧ g < w'.heap.size) w' a' (tabE xs).length (tabE xs) := by
  unfold tabE
  rw [hl]
  cases h : tabB xs
  · exact ⟨none, 0, by rw [h2 h]; rfl, rfl, .inl rfl⟩
  · rw [if_pos rfl]
    have e : (ents xs (n / 2)).length = n / 2 := by simp [ents]
    rw [e]
    exact owns_e (h1 h)

theorem decodeTable_any (a : Option Addr) (n c : Nat) (xs : List Int) (w : World) (ha : IRow .u8 w a n xs) (hx : ∀ i, i < n → 0 ≤ xs[i]?.getD 0 ∧ xs[i]?.getD 0 ≤ 255) (hc : n ≤ c) (hm : c ≤ 9223372036854775807) :
    Calls Tryd.prog 11 #[.slice a n c] w fun e w' => ∃ a' c', e = .returned (.agg #[.bool (tabB xs), .slice a' (tabE xs).length c']) ∧ EOwn (fun g => w.heap.size ≤ g ∧ g < w'.heap.size) w' a' (tabE xs).length (tabE xs) ∧ Below w.heap.size w w' := by
  have bad : tabB xs = false → ∀ w' : World, EOwn (fun g => w.heap.size ≤ g ∧ g < w'.heap.size) w' none (tabE xs).length (tabE xs) ∧ (tabE xs).length = 0 := fun h w' => by
    unfold tabE; rw [h]; exact ⟨⟨rfl, .inl rfl⟩, rfl⟩
  by_cases h1 : 2048 < n
  · refine (decodeTable_long a n c w h1).mono ?_
    rintro e w' ⟨rfl, hb⟩
    have hf := tab_long (xs := xs) (by rw [ha.1]; exact h1)
    exact ⟨none, 0, by rw [hf, (bad hf w').2], (bad hf w').1, hb⟩
  · refine (decodeTable_short a n c xs w ha hx (by omega) hc hm).mono ?_
    rintro e w' ⟨v, rfl, q1, q2, hb⟩
    obtain ⟨a', c', rfl, q⟩ := tab_shape (w := w) ha.1 q1 q2
    exact ⟨a', c', rfl, q, hb⟩

end Go.Proofs.YtkkammbfomiofaaDoor
