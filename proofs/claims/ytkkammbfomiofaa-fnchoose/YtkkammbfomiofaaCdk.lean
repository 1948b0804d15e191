/-
  The cached disk: what lies in memory; write.
-/
import Derived.Maps.OwnSet
import Derived.Maps.Views
import Derived.Deep.MidRow
import Derived.Deep.RegionHeld3
import Derived.Test.YtkkammbfomiofaaGa
import Derived.Test.YtkkammbfomiofaaBlk
namespace Go.Proofs.Ytkkammbfomiofaa
open Go.RowKit
set_option linter.unusedSimpArgs false
set_option linter.unusedVariables false

/-- A write as the cache keeps it. -/
def cwL (x : Int × List Int) : List Value := .int .i64 x.1 :: u8s x.2
def cwsL (ws : List (Int × List Int)) : List Value := ws.flatMap cwL
theorem cwsL_snoc (ws : List (Int × List Int)) (x : Int × List Int) : cwsL (ws ++ [x]) = cwsL ws ++ cwL x := by simp [cwsL]

/-- The map tells for each block its youngest write. -/
structure Young (D : DataW Unit) (ws : List (Int × List Int)) : Prop where
  isMap : Maps.IsMap D
  yes : ∀ b, (Lit.int .i64 b).wf = true → Maps.has D (.int .i64 b) = true → ∃ (i : Nat) (x : Int × List Int), ws[i]? = some x ∧ x.1 = b ∧ (∀ z, D.atKey (.int .i64 b) z = .lit (.int .i64 (i : Int))) ∧ ∀ (j : Nat) (y : Int × List Int), i < j → ws[j]? = some y → y.1 ≠ b
  no : ∀ b, (Lit.int .i64 b).wf = true → Maps.has D (.int .i64 b) = false → ∀ x ∈ ws, x.1 ≠ b

theorem Young.nil : Young (.map []) [] := ⟨Maps.isMap_empty, fun b _ h => by simp [Maps.has_eq] at h, fun b _ _ x hx => by simp at hx⟩

theorem Young.put {D : DataW Unit} {ws : List (Int × List Int)} (h : Young D ws) (b : Int) (hb : (Lit.int .i64 b).wf = true) (X : List Int) :
    Young (D.put (.int .i64 b) (.lit (.int .i64 (ws.length : Int)))) (ws ++ [(b, X)]) := by
  have hk : WideAt.IsKeyLit (Lit.int .i64 b) := by trivial
  refine ⟨h.isMap.put _ _, fun c hc hh => ?_, fun c hc hh => ?_⟩
  · by_cases e : c = b
    · subst e
      refine ⟨ws.length, (c, X), by simp, rfl, fun z => Maps.atKey_put_same h.isMap hk _ z, fun j y hj hy => ?_⟩
      rw [List.getElem?_eq_none (by simp; omega)] at hy
      cases hy
    · have hne : (Lit.int .i64 c) ≠ .int .i64 b := by intro e'; injection e' with _ e2; exact e e2
      rw [Maps.has_put_other hne] at hh
      obtain ⟨i, x, hi, hx, ha, hl⟩ := h.yes c hc hh
      have hlt : i < ws.length := (List.getElem?_eq_some_iff.1 hi).1
      refine ⟨i, x, by rw [List.getElem?_append_left hlt]; exact hi, hx, fun z => by rw [Maps.atKey_put_other hne]; exact ha z, fun j y hj hy => ?_⟩
      by_cases hjl : j < ws.length
      · rw [List.getElem?_append_left hjl] at hy; exact hl j y hj hy
      · rw [List.getElem?_append_right (by omega)] at hy
        by_cases h0 : j - ws.length = 0
        · rw [h0] at hy; simp at hy; subst hy; exact fun e' => e e'.symm
        · rw [List.getElem?_eq_none (by simp; omega)] at hy; cases hy
  · by_cases e : c = b
    · subst e
      rw [Maps.has_put_same h.isMap hk] at hh
      cases hh
    · have hne : (Lit.int .i64 c) ≠ .int .i64 b := by intro e'; injection e' with _ e2; exact e e2
      rw [Maps.has_put_other hne] at hh
      intro x hx
      rw [List.mem_append] at hx
      rcases hx with hx | hx
      · exact h.no c hc hh x hx
      · rw [List.mem_singleton] at hx; subst hx; exact fun e' => e e'.symm

/-- The cached disk at block C: nb blocks of bytes xs, the writes ws. -/
structure CD (B : Nat) (w : World) (C nb : Nat) (xs : List Int) (ws : List (Int × List Int)) (dv wv : Value) (M : Nat) (D : DataW Unit) : Prop where
  cell : w.heap[C]? = some (.cells #[dv, wv, .map (some M)] 106 (0, 0))
  dur : w.ownsRow B 60 64 dv nb (u8s xs)
  wr : w.ownsRow B 111 65 wv ws.length (cwsL ws)
  map : w.ownsMap Try.prog 2 (plainElem Try.prog 3) M ws.length D
  young : Young D ws
  len : xs.length = nb * 64
  lens : ∀ x ∈ ws, x.2.length = 64 ∧ (Lit.int .i64 x.1).wf = true
  hC : B ≤ C
  hM : B ≤ M

theorem cells3 {w : World} {g : Nat} {x y z : Value} {t : TypeId} (h : w.heap[g]? = some (.cells #[x, y, z] t (0, 0))) :
    w.cell? ⟨g, 0, none⟩ = some x ∧ w.cell? ⟨g, 1, none⟩ = some y ∧ w.cell? ⟨g, 2, none⟩ = some z ∧ (∀ i, w.frozen? ⟨g, i, none⟩ = false) := by
  refine ⟨?_, ?_, ?_, fun i => ?_⟩
  · simpa using cell_of_row w g 0 _ _ _ h
  · simpa using cell_of_row w g 1 _ _ _ h
  · simpa using cell_of_row w g 2 _ _ _ h
  · simp [World.frozen?, h]

end Go.Proofs.Ytkkammbfomiofaa
