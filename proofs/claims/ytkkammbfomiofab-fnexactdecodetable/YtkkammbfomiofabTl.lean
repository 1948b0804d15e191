/-
  FnExactDecodeTable: the law's walk.
-/
import Derived.Test.YtkkammbfomiofabTs
namespace Go.Proofs.Ytkkammbfomiofab
open Go.RowKit
set_option linter.unusedSimpArgs false
set_option linter.unusedVariables false

theorem eC_len (es : List (Int × Bool)) : (eC es).length = es.length * 2 := by
  induction es with
  | nil => rfl
  | cons x es ih => simp only [eC, List.flatMap_cons, List.length_append, List.length_cons, List.length_nil] at ih ⊢; omega
theorem eC_at (es : List (Int × Bool)) : ∀ i, i < es.length → (eC es)[i * 2]? = some (.int .i64 (eA es i)) ∧ (eC es)[i * 2 + 1]? = some (.bool (eI es i)) := by
  induction es with
  | nil => intro i h; simp at h
  | cons x es ih =>
    intro i h
    cases i with
    | zero => simp [eC, eA, eI]
    | succ i =>
      have := ih i (by simpa using h)
      have e1 : (i + 1) * 2 = i * 2 + 1 + 1 := by omega
      have e2 : (i + 1) * 2 + 1 = i * 2 + 1 + 1 + 1 := by omega
      rw [e1]
      simpa [eC, eA, eI] using this
theorem owns_e {w : World} {B n : Nat} {s : Value} {es : List (Int × Bool)} (h : w.ownsRow B 97 2 s n (eC es)) : ∃ a c, s = .slice a n c ∧ EOwn (fun g => B ≤ g ∧ g < w.heap.size) w a n es := by
  have hl : es.length = n := by have := h.1; rw [eC_len] at this; omega
  have h' := h
  rcases h.2 with ⟨rfl, h0⟩ | ⟨g, cap, cur, rfl, hB, hg, hc, hm, hsz, ht⟩
  · exact ⟨none, 0, by rw [h0], hl, .inl h0⟩
  · refine ⟨some ⟨g, 0, none⟩, cap, rfl, hl, .inr ⟨g, 0, rfl, ⟨hB, (Array.getElem?_eq_some_iff.1 hg).1⟩, fun i hi => ?_⟩⟩
    obtain ⟨q1, q2⟩ := eC_at es i (by omega)
    rw [Nat.zero_add]
    exact ⟨⟨by rw [h'.cellAt _ (by omega)]; exact q1, h'.frozenAt _⟩, by rw [h'.cellAt _ (by omega)]; exact q2, h'.frozenAt _⟩

/-- The table that is decoded. -/
def tabE (xs : List Int) : List (Int × Bool) := if tabB xs = true then ents xs (xs.length / 2) else []
theorem tabE_len (xs : List Int) : (tabE xs).length ≤ 1024 := by
  unfold tabE
  split
  · rename_i h
    unfold tabB at h
    simp only [Bool.and_eq_true, decide_eq_true_eq] at h
    simp [ents]; omega
  · simp
theorem tab_shape {xs : List Int} {n : Nat} (hl : xs.length = n) {w w' : World} {B : Nat} {v : Value} (h1 : tabB xs = true → w'.ownsRow B 97 2 v (n / 2) (eC (ents xs (n / 2)))) (h2 : tabB xs = false → v = .slice none 0 0) :
    ∃ a' c', v = .slice a' (tabE xs).length c' ∧ EOwn (fun g => B ≤ g ∧ g < w'.heap.size) w' a' (tabE xs).length (tabE xs) := by
  unfold tabE
  rw [hl]
  cases h : tabB xs
  · exact ⟨none, 0, by rw [h2 h]; rfl, rfl, .inl rfl⟩
  · rw [if_pos rfl]
    have e : (ents xs (n / 2)).length = n / 2 := by simp [ents]
    rw [e]
    exact owns_e (h1 h)

theorem specTable_any (a : Option Addr) (n c : Nat) (xs : List Int) (w : World) (ha : IRow .u8 w a n xs) (hx : ∀ i, i < n → 0 ≤ xs[i]?.getD 0 ∧ xs[i]?.getD 0 ≤ 255) (hc : n ≤ c) (hm : c ≤ 9223372036854775807) :
    Calls Try.prog 51 #[.slice a n c] w fun e w' => ∃ a' c', e = .returned (.agg #[.bool (tabB xs), .slice a' (tabE xs).length c']) ∧ EOwn (fun g => w.heap.size ≤ g ∧ g < w'.heap.size) w' a' (tabE xs).length (tabE xs) ∧ Below w.heap.size w w' := by
  have bad : tabB xs = false → ∀ w' : World, EOwn (fun g => w.heap.size ≤ g ∧ g < w'.heap.size) w' none (tabE xs).length (tabE xs) ∧ (tabE xs).length = 0 := fun h w' => by
    unfold tabE; rw [h]; exact ⟨⟨rfl, .inl rfl⟩, rfl⟩
  by_cases h1 : 2048 < n
  · refine (specTable_long a n c w h1).mono ?_
    rintro e w' ⟨rfl, hb⟩
    have hf := tab_long (xs := xs) (by rw [ha.1]; exact h1)
    exact ⟨none, 0, by rw [hf, (bad hf w').2], (bad hf w').1, hb⟩
  by_cases h2 : n % 2 = 1
  · refine (specTable_odd a n c w h2).mono ?_
    rintro e w' ⟨rfl, hb⟩
    have hf := tab_odd (xs := xs) (by rw [ha.1]; exact h2)
    exact ⟨none, 0, by rw [hf, (bad hf w').2], (bad hf w').1, hb⟩
  · refine (specTable_even a n c xs w ha hx (by omega) (by omega) hc hm).mono ?_
    rintro e w' ⟨v, rfl, q1, q2, hb⟩
    obtain ⟨a', c', rfl, q⟩ := tab_shape (w := w) ha.1 q1 q2
    exact ⟨a', c', rfl, q, hb⟩
theorem decodeTable_any (a : Option Addr) (n c : Nat) (xs : List Int) (w : World) (ha : IRow .u8 w a n xs) (hx : ∀ i, i < n → 0 ≤ xs[i]?.getD 0 ∧ xs[i]?.getD 0 ≤ 255) (hc : n ≤ c) (hm : c ≤ 9223372036854775807) :
    Calls Try.prog 52 #[.slice a n c] w fun e w' => ∃ a' c', e = .returned (.agg #[.bool (tabB xs), .slice a' (tabE xs).length c']) ∧ EOwn (fun g => w.heap.size ≤ g ∧ g < w'.heap.size) w' a' (tabE xs).length (tabE xs) ∧ Below w.heap.size w w' := by
  have bad : tabB xs = false → ∀ w' : World, EOwn (fun g => w.heap.size ≤ g ∧ g < w'.heap.size) w' none (tabE xs).length (tabE xs) ∧ (tabE xs).length = 0 := fun h w' => by
    unfold tabE; rw [h]; exact ⟨⟨rfl, .inl rfl⟩, rfl⟩
  by_cases h1 : 2048 < n
  · refine (decodeTable_long a n c w h1).mono ?_
    rintro e w' ⟨rfl, hb⟩
    have hf := tab_long (xs := xs) (by rw [ha.1]; exact h1)
    exact ⟨none, 0, by rw [hf, (bad hf w').2], (bad hf w').1, hb⟩
  · refine (decodeTable_short a n c xs w ha hx (by omega) hc hm).mono ?_
    rintro e w' ⟨v, rfl, q1, q2, hb⟩
    obtain ⟨a', c', rfl, q⟩ := tab_shape (w := w) ha.1 q1 q2
    exact ⟨a', c', rfl, q, hb⟩

set_option maxHeartbeats 1000000 in
theorem eqTableResult_same (t : Bool) (a b : Option Addr) (m ca cb : Nat) (es : List (Int × Bool)) (w : World) (ha : ERead w a m es) (hb : ERead w b m es) (hm : m ≤ 2097152) :
    Calls Try.prog 53 #[.agg #[.bool t, .slice a m ca], .agg #[.bool t, .slice b m cb]] w fun e w' => e = .returned (.bool true) ∧ Below w.heap.size w w' := by
  have h1 : (t != t) = false := by simp
  have HA : Hid (ERead w a m es) := ha
  have HB : Hid (ERead w b m es) := hb
  clear ha hb
  have hbb : ∀ o1 o2 : Obj, Below w.heap.size w ((w.alloc o1).alloc o2) := fun o1 o2 => ((Below.refl _ _).alloc (Nat.le_refl _) _).alloc (by simp) _
  go_enter Try.func53, Try.ntmps53
  go_wp2_with fail
  refine (eqEntryS_any _ _ _ _ _ _ es es _ (HA.out.below (hbb _ _)) (HB.out.below (hbb _ _)) hm hm).mono ?_
  rintro e w1 ⟨rfl, hb⟩
  rw [show decide (es = es) = true from by simp]
  have hb1 : Below w.heap.size w w1 := (hbb _ _).trans (hb.mono (by simp; omega))
  clear hb hbb
  go_wp2
  go_ret
  exact ⟨rfl, hb1⟩
set_option maxHeartbeats 1000000 in
theorem markTableResult_any (t : Bool) (a : Option Addr) (m ca : Nat) (k : Int) (G : Nat → Prop) (es : List (Int × Bool)) (w : World) (ha : EOwn G w a m es) (hn : m ≤ 2097152) (h0 : 0 ≤ k) (h1 : k ≤ 35184372088832) :
    Calls Try.prog 54 #[.agg #[.bool t, .slice a m ca], .int .i64 k] w fun e w' => ∃ es', e = .returned (.int .i64 (k + 2 * m)) ∧ EOwn G w' a m es' ∧ (∀ i, i < m → eA es' i = k + 2 * i ∧ eI es' i = ((k + 2 * i + 1) % 3 == 0)) ∧ Kept G w w' := by
  have HA : Hid (EOwn G w a m es) := ha
  clear ha
  have hbb : ∀ o1 : Obj, Below w.heap.size w (w.alloc o1) := fun o1 => (Below.refl _ _).alloc (Nat.le_refl _) _
  go_enter Try.func54, Try.ntmps54
  go_wp2_with fail
  refine (markEntryS_any _ _ _ k G es _ (HA.out.below (hbb _)) hn h0 h1).mono ?_
  rintro e w1 ⟨es', rfl, q1, q2, hk⟩
  have hk' : Kept G w w1 := (Kept.of_below (hbb _) G).trans hk
  have Q2 : Hid (∀ i, i < m → eA es' i = k + 2 * i ∧ eI es' i = ((k + 2 * i + 1) % 3 == 0)) := q2
  clear hk hbb q2
  go_wp2
  go_ret
  exact ⟨es', rfl, q1, Q2.out, hk'⟩
set_option maxHeartbeats 1000000 in
theorem heldTableResult_any (t : Bool) (a : Option Addr) (m ca : Nat) (k : Int) (es : List (Int × Bool)) (w : World) (ha : ERead w a m es) (he : ∀ i, i < m → eA es i = k + 2 * i ∧ eI es i = ((k + 2 * i + 1) % 3 == 0)) (hn : m ≤ 2097152) (h0 : 0 ≤ k) (h1 : k ≤ 35184372088832) :
    Calls Try.prog 55 #[.agg #[.bool t, .slice a m ca], .int .i64 k] w fun e w' => e = .returned (.int .i64 (k + 2 * m)) ∧ Below w.heap.size w w' := by
  have HA : Hid (ERead w a m es) := ha
  have HE : Hid (∀ i, i < m → eA es i = k + 2 * i ∧ eI es i = ((k + 2 * i + 1) % 3 == 0)) := he
  clear ha he
  have hbb : ∀ o1 : Obj, Below w.heap.size w (w.alloc o1) := fun o1 => (Below.refl _ _).alloc (Nat.le_refl _) _
  go_enter Try.func55, Try.ntmps55
  go_wp2_with fail
  refine (heldEntryS_any _ _ _ k es _ (HA.out.below (hbb _)) HE.out hn h0 h1).mono ?_
  rintro e w1 ⟨rfl, hw⟩
  have hw' := hw.symm
  subst hw'
  have hlt : ¬ (k + 2 * (m : Int)) < 0 := by omega
  go_wp2
  go_ret
  exact ⟨rfl, hbb _⟩
end Go.Proofs.Ytkkammbfomiofab
