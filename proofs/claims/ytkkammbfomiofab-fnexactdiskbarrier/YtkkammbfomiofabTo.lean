/-
  toWrite, toWriteS, toDisk: an argument copied.
-/
import Derived.Test.YtkkammbfomiofabSz
namespace Go.Proofs.Ytkkammbfomiofab
open Go.RowKit
set_option linter.unusedSimpArgs false
set_option linter.unusedVariables false

theorem Row.lt {k : IntKind} {G : Nat → Prop} {w : World} {a : Option Addr} {n : Nat} {xs : List Int} (h : Row k G w a n xs) : Row k (fun g => G g ∧ g < w.heap.size) w a n xs := by
  refine ⟨h.1, ?_⟩
  by_cases hn : n = 0
  · exact .inl hn
  rcases h.2 with h0 | ⟨g, off, e, hg, hc⟩
  · exact .inl h0
  · exact .inr ⟨g, off, e, ⟨hg, World.block_lt_of_cell? w _ (hc 0 (by omega)).1⟩, hc⟩

theorem three_vars {w w1 : World} {o1 o2 o3 : Obj} (hb : Below (((w.alloc o1).alloc o2).alloc o3).heap.size (((w.alloc o1).alloc o2).alloc o3) w1) :
    w1.heap[w.heap.size]? = some o1 ∧ w1.heap[w.heap.size + 1]? = some o2 ∧ w1.heap[w.heap.size + 2]? = some o3 := by
  have s1 : (w.alloc o1).heap.size = w.heap.size + 1 := by simp
  have s2 : ((w.alloc o1).alloc o2).heap.size = w.heap.size + 2 := by simp
  have s3 : (((w.alloc o1).alloc o2).alloc o3).heap.size = w.heap.size + 3 := by simp
  refine ⟨?_, ?_, ?_⟩
  · rw [hb.block _ (by rw [s3]; omega), heap_alloc_old _ _ (by rw [s2]; omega), heap_alloc_old _ _ (by rw [s1]; omega)]; exact heap_alloc_new w o1
  · rw [hb.block _ (by rw [s3]; omega), heap_alloc_old _ _ (by rw [s2]; omega), ← s1]; exact heap_alloc_new _ o2
  · rw [hb.block _ (by rw [s3]; omega), ← s2]; exact heap_alloc_new _ o3

set_option maxHeartbeats 1000000 in
theorem toWrite_any (b : Int) (a : Option Addr) (n c : Nat) (xs : List Int) (w : World) (ha : IRow .u8 w a n xs) (hn : n ≤ 2097152) :
    Calls Try.prog 93 #[.agg #[.int .i64 b, .slice a n c]] w fun e w' => ∃ g, e = .returned (.agg #[.int .i64 b, .slice (some ⟨g, 0, none⟩) n n]) ∧ w.heap.size ≤ g ∧ g < w'.heap.size ∧ Row .u8 (fun x => x = g) w' (some ⟨g, 0, none⟩) n xs ∧ Below w.heap.size w w' := by
  go_enter Try.func93, Try.ntmps93
  go_wp2_with fail
  refine (toByteS_any _ _ _ xs _ (((ha.alloc _).alloc _).alloc _) hn).mono ?_
  rintro e w1 ⟨rfl, hr, hb, hs⟩
  obtain ⟨k1, k2, k3⟩ := three_vars hb
  obtain ⟨p1, p2, p3, p4⟩ := two_cells k2
  obtain ⟨q1, q2, q3, q4⟩ := two_cells k3
  have es : ((((w.alloc (.cells #[.int .i64 b, .slice a n c] 115)).alloc (.cells #[.int .i64 0, .slice none 0 0] 78)).alloc (.cells #[.int .i64 b, .slice none 0 0] 78)).heap.size) = w.heap.size + 3 := by simp
  rw [es] at hr hb hs ⊢
  have hb' : Below w.heap.size w w1 := ((((Below.refl _ _).alloc (Nat.le_refl _) _).alloc (by simp) _).alloc (by simp; omega) _).trans (hb.mono (by omega))
  clear hb k1 k2 k3 ha es
  go_wp2
  refine bodyPost_ret (v := .agg #[.int .i64 b, .slice (some ⟨w.heap.size + 3, 0, none⟩) n n]) (by simp [results, Try.results93, go_sem, p1, p2, q1, q2]) rfl ?_
  refine ⟨_, rfl, by omega, by simpa [World.setCell] using hs, ?_, ?_⟩
  · exact hr.kept (((Kept.setCell _ ⟨w.heap.size + 2, 1, none⟩ _ (fun g => g < w.heap.size + 3) (by simp)).trans (Kept.setCell _ ⟨w.heap.size + 1, 0, none⟩ _ (fun g => g < w.heap.size + 3) (by simp))).trans (Kept.setCell _ ⟨w.heap.size + 1, 1, none⟩ _ (fun g => g < w.heap.size + 3) (by simp))) (fun g h1 h2 => by omega)
  · exact ((hb'.setCell (by show w.heap.size ≤ w.heap.size + 2; omega) _).setCell (by show w.heap.size ≤ w.heap.size + 1; omega) _).setCell (by show w.heap.size ≤ w.heap.size + 1; omega) _

theorem info78 : (Try.prog.info? 78).map (fun i => (i.zero, i.size, i.bytes)) = some (some (.agg #[.int .i64 0, .slice none 0 0]), 2, 32) := by kernel_rfl

theorem made_two (x y : Value) (n i : Nat) (h : i < n) : (madeCells #[x, y] (n * 2)).toList[i * 2]? = some x ∧ (madeCells #[x, y] (n * 2)).toList[i * 2 + 1]? = some y := by
  have h1 : i * 2 < n * 2 := by omega
  have h2 : i * 2 + 1 < n * 2 := by omega
  constructor
  · simp [madeCells, h1]
  · simp [madeCells, h2, Nat.add_mod]

/-- Half-way: the first j writes are copied. -/
structure ToMid (T : Nat → Nat) (B : Nat) (w : World) (n : Nat) (ws vs : List WV) (j : Nat) : Prop where
  len : vs.length = n
  tag : T B = 1
  cells : ∀ i, i < n → (w.cell? ⟨B, i * 2, none⟩ = some (.int .i64 (wBlk vs i)) ∧ w.frozen? ⟨B, i * 2, none⟩ = false) ∧ w.cell? ⟨B, i * 2 + 1, none⟩ = some (.slice (wA vs i) (wN vs i) (wC vs i)) ∧ w.frozen? ⟨B, i * 2 + 1, none⟩ = false
  rows : ∀ i, i < j → Row .u8 (fun g => T g = 2 + i ∧ B ≤ g) w (wA vs i) (wN vs i) (wBs vs i) ∧ wN vs i = wN ws i ∧ wBlk vs i = wBlk ws i ∧ wBs vs i = wBs ws i
  size : B < w.heap.size

theorem wget_set (vs : List WV) (j i : Nat) (x : WV) (hj : j < vs.length) : (vs.set j x)[i]?.getD wv0 = if i = j then x else vs[i]?.getD wv0 := by
  by_cases e : i = j
  · subst e; simp [hj]
  · rw [if_neg e, List.getElem?_set_ne (by omega)]

theorem ToMid.step {T : Nat → Nat} {B : Nat} {w w1 : World} {n : Nat} {ws vs : List WV} {j g : Nat} (h : ToMid T B w n ws vs j) (hj : j < n) (hb : Below w.heap.size w w1) (hg : w.heap.size ≤ g)
    (hr : Row .u8 (fun x => x = g) w1 (some ⟨g, 0, none⟩) (wN ws j) (wBs ws j)) (hs : g < w1.heap.size) :
    ToMid (fun x => if x = g then 2 + j else T x) B ((w1.setCell ⟨B, j * 2, none⟩ (.int .i64 (wBlk ws j))).setCell ⟨B, j * 2 + 1, none⟩ (.slice (some ⟨g, 0, none⟩) (wN ws j) (wN ws j))) n ws (vs.set j ⟨wBlk ws j, some ⟨g, 0, none⟩, wN ws j, wN ws j, wBs ws j⟩) (j + 1) := by
  have hl : j < vs.length := by rw [h.len]; exact hj
  have hB := h.size
  have hk : Kept (fun x => x = B) w1 ((w1.setCell ⟨B, j * 2, none⟩ (.int .i64 (wBlk ws j))).setCell ⟨B, j * 2 + 1, none⟩ (.slice (some ⟨g, 0, none⟩) (wN ws j) (wN ws j))) :=
    (Kept.setCell w1 ⟨B, j * 2, none⟩ _ (fun x => x = B) rfl).trans (Kept.setCell _ ⟨B, j * 2 + 1, none⟩ _ (fun x => x = B) rfl)
  refine ⟨by rw [List.length_set]; exact h.len, ?_, ?_, ?_, Nat.lt_of_lt_of_le (Nat.lt_of_lt_of_le hB hb.size) hk.size⟩
  · show (if B = g then 2 + j else T B) = 1
    rw [if_neg (by omega)]; exact h.tag
  · intro i hi
    obtain ⟨⟨c1, c2⟩, c3, c4⟩ := h.cells i hi
    rw [← hb.cell (p := ⟨B, i * 2, none⟩) hB] at c1
    rw [← hb.frozen (p := ⟨B, i * 2, none⟩) hB] at c2
    rw [← hb.cell (p := ⟨B, i * 2 + 1, none⟩) hB] at c3
    rw [← hb.frozen (p := ⟨B, i * 2 + 1, none⟩) hB] at c4
    simp only [wBlk, wA, wN, wC, wget_set _ _ _ _ hl, World.frozen?_setCell]
    by_cases e : i = j
    · subst e
      rw [if_pos rfl]
      refine ⟨⟨?_, c2⟩, ?_, c4⟩
      · rw [World.cell?_setCell_other (h := by intro e; injection e with e1 e2 e3; omega)]
        exact World.cell?_setCell_same _ _ _ c1
      · exact World.cell?_setCell_same _ _ _ (by rw [World.cell?_setCell_other (h := by intro e; injection e with e1 e2 e3; omega)]; exact c3)
    · rw [if_neg e]
      refine ⟨⟨?_, c2⟩, ?_, c4⟩
      · rw [World.cell?_setCell_other (h := by intro e; injection e with e1 e2 e3; omega), World.cell?_setCell_other (h := by intro e; injection e with e1 e2 e3; omega)]
        exact c1
      · rw [World.cell?_setCell_other (h := by intro e; injection e with e1 e2 e3; omega), World.cell?_setCell_other (h := by intro e; injection e with e1 e2 e3; omega)]
        exact c3
  · intro i hi
    simp only [wBlk, wA, wN, wBs, wget_set _ _ _ _ hl]
    by_cases e : i = j
    · subst e
      simp only [if_true]
      refine ⟨(hr.kept hk (fun x h1 h2 => by omega)).mono (fun x hx => ?_), by trivial, by trivial, by trivial⟩
      subst hx
      exact ⟨by simp, by omega⟩
    · simp only [if_neg e]
      obtain ⟨r, e1, e2, e3⟩ := h.rows i (by omega)
      refine ⟨?_, e1, e2, e3⟩
      have r1 := (r.lt.below hb).kept hk (fun x h1 h2 => by
        subst h2
        have := h.tag
        omega)
      refine r1.mono (fun x hx => ⟨?_, hx.1.2⟩)
      show (if x = g then 2 + j else T x) = 2 + i
      rw [if_neg (by omega)]
      exact hx.1.1

theorem ToMid.done {T : Nat → Nat} {B : Nat} {w : World} {n : Nat} {ws vs : List WV} (h : ToMid T B w n ws vs n) (hl : ws.length = n) (hs : ∀ i, i < n → wN ws i ≤ 2097152) :
    POwn T (fun g => B ≤ g ∧ g < w.heap.size) w (some ⟨B, 0, none⟩) n vs ∧ wVal vs = wVal ws := by
  constructor
  · refine ⟨h.len, .inr ⟨B, 0, rfl, ⟨h.tag, Nat.le_refl _, h.size⟩, fun i hi => ?_⟩, fun i hi => ⟨(h.rows i hi).1.lt.mono (fun g hg => ⟨hg.1.1, hg.1.2, hg.2⟩), by rw [(h.rows i hi).2.1]; exact hs i hi⟩⟩
    obtain ⟨c1, c3, c4⟩ := h.cells i hi
    simp only [Nat.zero_add]
    exact ⟨c1, c3⟩
  · apply List.ext_getElem?
    intro i
    simp only [wVal, List.getElem?_map]
    by_cases hi : i < n
    · obtain ⟨_, _, e2, e3⟩ := h.rows i hi
      have l1 : i < vs.length := by rw [h.len]; exact hi
      have l2 : i < ws.length := by rw [hl]; exact hi
      simp only [wBlk, wBs, List.getElem?_eq_getElem l1, List.getElem?_eq_getElem l2, Option.getD_some] at e2 e3
      simp [List.getElem?_eq_getElem l1, List.getElem?_eq_getElem l2, e2, e3]
    · rw [List.getElem?_eq_none (by rw [h.len]; omega), List.getElem?_eq_none (by rw [hl]; omega)]
end Go.Proofs.Ytkkammbfomiofab
