/-
  EncodeTable, the program's.
-/
import Derived.Test.YtkkammbfomiofabDoorEncT
namespace Go.Proofs.YtkkammbfomiofabDoor
open Go.RowKit
set_option linter.unusedSimpArgs false
set_option linter.unusedVariables false

/-- Widths and values as cells. -/
def nCells (ns : List (Int × Int)) : List Value := ns.flatMap fun x => [.int .i64 x.1, .int .i64 x.2]
theorem nCells_len (ns : List (Int × Int)) : (nCells ns).length = ns.length * 2 := by
  induction ns with
  | nil => rfl
  | cons x ns ih => simp only [nCells, List.flatMap_cons, List.length_append, List.length_cons, List.length_nil] at ih ⊢; omega
theorem nCells_append (xs ys : List (Int × Int)) : nCells (xs ++ ys) = nCells xs ++ nCells ys := by simp [nCells]
theorem nCells_at (ns : List (Int × Int)) : ∀ i, i < ns.length → (nCells ns)[i * 2]? = some (.int .i64 (nW ns i)) ∧ (nCells ns)[i * 2 + 1]? = some (.int .i64 (nV ns i)) := by
  induction ns with
  | nil => intro i h; simp at h
  | cons x ns ih =>
    intro i h
    cases i with
    | zero => simp [nCells, nW, nV]
    | succ i =>
      have := ih i (by simpa using h)
      have e1 : (i + 1) * 2 = i * 2 + 1 + 1 := by omega
      have e2 : (i + 1) * 2 + 1 = i * 2 + 1 + 1 + 1 := by omega
      rw [e1]
      simpa [nCells, nW, nV] using this

theorem owns_nread {w : World} {B n : Nat} {s : Value} {ns : List (Int × Int)} (h : w.ownsRow B 61 2 s n (nCells ns)) : ∃ a c, s = .slice a n c ∧ NRead w a n ns := by
  have hl : ns.length = n := by have := h.1; rw [nCells_len] at this; omega
  have h' := h
  rcases h.2 with ⟨rfl, h0⟩ | ⟨g, cap, cur, rfl, hB, hg, hc, hm, hsz, ht⟩
  · exact ⟨none, 0, by rw [h0], hl, .inl h0⟩
  · refine ⟨some ⟨g, 0, none⟩, cap, rfl, hl, .inr ⟨g, 0, rfl, fun i hi => ?_⟩⟩
    obtain ⟨q1, q2⟩ := nCells_at ns i (by omega)
    rw [Nat.zero_add, h'.cellAt _ (by omega), h'.cellAt _ (by omega)]
    exact ⟨q1, q2⟩

theorem info61 : (Tryd.prog.info? 61).map (fun i => (i.zero, i.size, i.bytes)) = some (some (.agg #[.int .i64 0, .int .i64 0]), 2, 16) := by kernel_rfl

theorem two_new {w : World} {x y : Value} {t : TypeId} : ∀ j u, [x, y][j]? = some u → (w.alloc (.cells #[x, y] t)).cell? ((⟨w.heap.size, 0, none⟩ : Addr).add j) = some u := by
  intro j u hj
  match j, hj with
  | 0, hj => simp at hj; subst hj; simp [Addr.add]
  | 1, hj => simp at hj; subst hj; simp [Addr.add]
theorem two_i64 (x y : Int) : ∀ u ∈ [Value.int .i64 x, Value.int .i64 y], u.oneCell' = true := by intro u hu; simp at hu; rcases hu with rfl | rfl <;> rfl

/-- The numbers of a table. -/
def eNums (es : List (Int × Bool)) : List (Int × Int) := es.map fun e => (2, eNum e.1 e.2)
theorem eNums_succ (es : List (Int × Bool)) (k : Nat) (h : k < es.length) : eNums (es.take (k + 1)) = eNums (es.take k) ++ [(2, eNum (eA es k) (eI es k))] := by
  rw [List.take_succ_eq_append_getElem h, e_at es k h]
  simp only [eNums, List.map_append, List.map_cons, List.map_nil]
theorem eNums_put (es : List (Int × Bool)) : putL (eNums es) = eBytes es := by
  simp only [putL, eNums, eBytes, List.flatMap_map]
  rfl
theorem eNums_ok (es : List (Int × Bool)) (h : eAll es = true) : NOk es.length (eNums es) := by
  intro i hi
  have e : (eNums es)[i]? = some (2, eNum es[i].1 es[i].2) := by simp [eNums, hi]
  simp only [nW, nV, e, Option.getD_some]
  have hv : veB es[i].1 es[i].2 = true := by
    have := List.all_eq_true.1 h es[i] (List.getElem_mem hi)
    exact this
  obtain ⟨v1, v2⟩ := veB_bounds hv
  obtain ⟨v3, v4⟩ := eNum_bounds (b := es[i].2) v1 v2
  exact ⟨⟨by decide, by decide⟩, v3, by omega⟩

theorem owns_base {w : World} {B B' e sz n : Nat} {s : Value} {xs : List Value} (h : w.ownsRow B e sz s n xs) (hB : B' ≤ B) : w.ownsRow B' e sz s n xs := by
  refine ⟨h.1, h.2.imp id ?_⟩
  rintro ⟨g, cap, cur, e1, hg, rest⟩
  exact ⟨g, cap, cur, e1, by omega, rest⟩

end Go.Proofs.YtkkammbfomiofabDoor
