/-
  A list of writes that grows by append.
-/
import Derived.Test.YtkkammbfomiofaaCdr
import Derived.Test.YtkkammbfomiofaaGb
namespace Go.Proofs.Ytkkammbfomiofaa
open Go.RowKit
set_option linter.unusedSimpArgs false
set_option linter.unusedVariables false

def wvL (ws : List WV) : List Value := ws.flatMap fun x => [.int .i64 x.blk, .slice x.a x.n x.c]
theorem wvL_snoc (ws : List WV) (x : WV) : wvL (ws ++ [x]) = wvL ws ++ [.int .i64 x.blk, .slice x.a x.n x.c] := by simp [wvL]
theorem wvL_at : ∀ (ws : List WV) (i : Nat), i < ws.length → (wvL ws)[i * 2]? = some (.int .i64 (wBlk ws i)) ∧ (wvL ws)[i * 2 + 1]? = some (.slice (wA ws i) (wN ws i) (wC ws i))
  | [], i, h => by simp at h
  | x :: ws, 0, h => by simp [wvL, wBlk, wA, wN, wC]
  | x :: ws, i + 1, h => by
    have ih := wvL_at ws i (by simpa using h)
    have e : wvL (x :: ws) = .int .i64 x.blk :: .slice x.a x.n x.c :: wvL ws := by simp [wvL]
    rw [e, show (i + 1) * 2 = i * 2 + 1 + 1 by omega]
    simpa [wBlk, wA, wN, wC] using ih
theorem wget_snoc (ws : List WV) (x : WV) (i : Nat) : (ws ++ [x])[i]?.getD wv0 = if i = ws.length then x else ws[i]?.getD wv0 := by
  by_cases e : i = ws.length
  · subst e; simp
  · rw [if_neg e]
    by_cases h : i < ws.length
    · rw [List.getElem?_append_left h]
    · rw [List.getElem?_append_right (by omega), List.getElem?_eq_none (by simp; omega), List.getElem?_eq_none (by omega)]

/-- The row of the writes, and the data of each in a block of its own; T tells the blocks apart, Z are blocks of others. -/
structure PAcc (T : Nat → Nat) (Z : Nat → Prop) (B : Nat) (w : World) (v : Value) (ws : List WV) : Prop where
  row : w.ownsRow B 43 2 v ws.length (wvL ws)
  tag : ∀ g, v.ownBlock = some g → T g = 1
  rows : ∀ i, i < ws.length → Row .u8 (fun g => T g = 2 + i ∧ B ≤ g) w (wA ws i) (wN ws i) (wBs ws i) ∧ wN ws i ≤ 2097152
  z : ∀ g, Z g → T g = 0
  u8 : ∀ g, 2 ≤ T g → ∃ cur, w.heap[g]? = some (.cells cur 5 (0, 0))

theorem PAcc.nil (Z : Nat → Prop) (B : Nat) (w : World) : PAcc (fun _ => 0) Z B w (.slice none 0 0) [] :=
  ⟨⟨rfl, .inl ⟨rfl, rfl⟩⟩, fun g hg => by simp [Value.ownBlock] at hg, fun i hi => by simp at hi, fun _ _ => rfl, fun g hg => by omega⟩

theorem PAcc.kept {T : Nat → Nat} {Z : Nat → Prop} {B : Nat} {w w' : World} {v : Value} {ws : List WV} {G : Nat → Prop} (h : PAcc T Z B w v ws) (hk : Kept G w w') (hG : ∀ g, G g → T g = 0) : PAcc T Z B w' v ws := by
  refine ⟨row_kept h.row hk (fun g hg hh => ?_), h.tag, fun i hi => ⟨(h.rows i hi).1.kept hk (fun g hg hh => ?_), (h.rows i hi).2⟩, h.z, fun g hg => ?_⟩
  · have h1 := h.tag g hg
    have h3 := hG g hh
    omega
  · have h3 := hG g hh
    omega
  · obtain ⟨cur, hc⟩ := h.u8 g hg
    exact ⟨cur, (hk.block g (Array.getElem?_eq_some_iff.1 hc).1 (fun hh => by have h3 := hG g hh; omega)).trans hc⟩

theorem PAcc.step {T : Nat → Nat} {Z : Nat → Prop} {B : Nat} {w w1 w2 : World} {v : Value} {ws : List WV} (h : PAcc T Z B w v ws) (hb : Below w.heap.size w w1) {o : Obj} {gn c : Nat} {blk : Int} {bs : List Int} {g' cap' : Nat} {cur : Array Value}
    (hgn : w.heap.size ≤ gn) (hBw : B ≤ w.heap.size) (hr : Row .u8 (fun x => x = gn) w1 (some ⟨gn, 0, none⟩) bs.length bs) (hbl : bs.length ≤ 2097152) (hcur : w1.heap[gn]? = some (.cells cur 5 (0, 0)))
    (hg2 : (w1.alloc o).grownBy w2 v.ownBlock) (hown2 : w2.ownsRow B 43 2 (.slice (some ⟨g', 0, none⟩) (ws.length + 1) cap') (ws.length + 1) (wvL ws ++ [.int .i64 blk, .slice (some ⟨gn, 0, none⟩) bs.length c]))
    (hZ : ∀ g, Z g → g < w.heap.size ∧ ∃ o, w2.heap[g]? = some o ∧ ∀ cur, o ≠ .cells cur 43 (0, 0)) :
    PAcc (fun x => if x = g' then 1 else if x = gn then 2 + ws.length else T x) Z B w2 (.slice (some ⟨g', 0, none⟩) (ws.length + 1) cap') (ws ++ [(⟨blk, some ⟨gn, 0, none⟩, bs.length, c, bs⟩ : WV)]) ∧ Kept (fun g => v.ownBlock = some g) w w2 := by
  have k12 : Kept (fun g => v.ownBlock = some g) w1 w2 := (Kept.of_below ((Below.refl _ w1).alloc (Nat.le_refl _) o) _).trans (grown_kept hg2)
  have k02 : Kept (fun g => v.ownBlock = some g) w w2 := (Kept.of_below hb _).trans k12
  have hgl : gn < w1.heap.size := (Array.getElem?_eq_some_iff.1 hcur).1
  have ngn : ¬ v.ownBlock = some gn := fun e => by have := (h.row.lt gn e).2; omega
  have hgn2 : w2.heap[gn]? = some (.cells cur 5 (0, 0)) := (k12.block gn hgl ngn).trans hcur
  have hg'n : g' ≠ gn := by
    intro e
    obtain ⟨cur', hc'⟩ := owns_tag hown2 (g := g') rfl
    rw [e, hgn2] at hc'
    injection hc' with hc'
    injection hc' with _ hc'
    revert hc'; decide
  have hl : (ws ++ [(⟨blk, some ⟨gn, 0, none⟩, bs.length, c, bs⟩ : WV)]).length = ws.length + 1 := by simp
  have hold : ∀ g, 2 ≤ T g → g ≠ g' ∧ g ≠ gn ∧ ¬ v.ownBlock = some g := fun g hT => by
    obtain ⟨cur1, hc1⟩ := h.u8 g hT
    have hlt := (Array.getElem?_eq_some_iff.1 hc1).1
    have hne : ¬ v.ownBlock = some g := fun e => by have := h.tag g e; omega
    refine ⟨fun e => ?_, by omega, hne⟩
    obtain ⟨cur', hc'⟩ := owns_tag hown2 (g := g') rfl
    rw [← e, k02.block g hlt hne, hc1] at hc'
    injection hc' with hc'
    injection hc' with _ hc'
    revert hc'; decide
  refine ⟨⟨?_, ?_, ?_, ?_, ?_⟩, k02⟩
  · rw [hl, wvL_snoc]
    exact hown2
  · intro g hg
    simp only [Value.ownBlock, Option.some.injEq] at hg
    show (if g = g' then 1 else if g = gn then 2 + ws.length else T g) = 1
    rw [if_pos hg.symm]
  · intro i hi
    rw [hl] at hi
    simp only [wA, wN, wBs, wget_snoc]
    by_cases e : i = ws.length
    · subst e
      simp only [if_true]
      refine ⟨(hr.kept k12 (fun g hg => by subst hg; exact ngn)).mono (fun g hg => ?_), hbl⟩
      subst hg
      refine ⟨?_, by omega⟩
      show (if g = g' then 1 else if g = g then 2 + ws.length else T g) = 2 + ws.length
      rw [if_neg (fun e => hg'n e.symm), if_pos rfl]
    · simp only [if_neg e]
      obtain ⟨hr0, hr1⟩ := h.rows i (by omega)
      refine ⟨(hr0.kept k02 (fun g hg => (hold g (by omega)).2.2)).mono (fun g hg => ?_), hr1⟩
      obtain ⟨n1, n2, _⟩ := hold g (by omega)
      refine ⟨?_, hg.2⟩
      show (if g = g' then 1 else if g = gn then 2 + ws.length else T g) = 2 + i
      rw [if_neg n1, if_neg n2]
      exact hg.1
  · intro g hg
    obtain ⟨z1, o', z2, z3⟩ := hZ g hg
    show (if g = g' then 1 else if g = gn then 2 + ws.length else T g) = 0
    rw [if_neg, if_neg (by omega)]
    · exact h.z g hg
    · intro e
      obtain ⟨cur', hc'⟩ := owns_tag hown2 (g := g') rfl
      rw [← e, z2] at hc'
      injection hc' with hc'
      exact z3 _ hc'
  · intro g hg
    by_cases e1 : g = g'
    · rw [if_pos e1] at hg; omega
    · rw [if_neg e1] at hg
      by_cases e2 : g = gn
      · subst e2; exact ⟨cur, hgn2⟩
      · rw [if_neg e2] at hg
        obtain ⟨cur1, hc1⟩ := h.u8 g hg
        exact ⟨cur1, (k02.block g (Array.getElem?_eq_some_iff.1 hc1).1 (hold g hg).2.2).trans hc1⟩

/-- As an owned list of writes. -/
theorem PAcc.own {T : Nat → Nat} {Z : Nat → Prop} {B : Nat} {w : World} {pa : Option Addr} {pc m : Nat} {ws : List WV} (h : PAcc T Z B w (.slice pa m pc) ws) (hm : ws.length = m) : POwn T (fun g => B ≤ g ∧ g < w.heap.size) w pa m ws := by
  subst hm
  refine ⟨rfl, ?_, fun i hi => ⟨(h.rows i hi).1.lt.mono (fun g hg => ⟨hg.1.1, hg.1.2, hg.2⟩), (h.rows i hi).2⟩⟩
  by_cases h0 : ws.length = 0
  · exact .inl h0
  rcases h.row.2 with ⟨_, e0⟩ | ⟨g, cap, cur, e, hB, hh, hcap, _, hcs, htk⟩
  · omega
  injection e with e1 e2 e3
  subst e1
  refine .inr ⟨g, 0, rfl, ⟨h.tag g rfl, hB, (Array.getElem?_eq_some_iff.1 hh).1⟩, fun i hi => ?_⟩
  obtain ⟨l1, l2⟩ := wvL_at ws i hi
  rw [← htk] at l1 l2
  rw [List.getElem?_take, if_pos (by omega)] at l1 l2
  have hf : ∀ j, w.frozen? ⟨g, j, none⟩ = false := fun j => by simp [World.frozen?, hh]
  refine ⟨⟨?_, hf _⟩, ?_⟩
  · rw [Nat.zero_add, cell_of_row w g (i * 2) _ _ _ hh]; simpa using l1
  · rw [Nat.zero_add, cell_of_row w g (i * 2 + 1) _ _ _ hh]; simpa using l2
end Go.Proofs.Ytkkammbfomiofaa
