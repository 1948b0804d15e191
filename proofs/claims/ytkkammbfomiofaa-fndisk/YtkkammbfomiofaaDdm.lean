/-
  Draws as functions: what l1DrawDisk does to a disk.
-/
import Derived.Maps.AppendAt
import Derived.Test.YtkkammbfomiofaaDgv
namespace Go.Proofs.Ytkkammbfomiofaa
open Go.RowKit
set_option linter.unusedSimpArgs false
set_option linter.unusedVariables false

/-- The disk that l1DrawDisk draws, and the source behind it. -/
def bentF (k : Int) (p : SV × DV) : SV × DV :=
  if k = 0 then (p.1, (p.2.1 ++ [1], p.2.2))
  else if k = 1 then (p.1, ([], p.2.2))
  else if k = 2 then (p.1.rest 2, (List.replicate ((1200 + p.1.next 2) * 64).toNat 0, p.2.2))
  else if k = 3 then ((p.1.rest 2).rest 3, (p.2.1, p.2.2 ++ [(p.1.next 2 * 9, List.replicate (63 + (p.1.rest 2).next 3).toNat 0)]))
  else if k = 4 then (p.1, (p.2.1, p.2.2 ++ [(-1, List.replicate 64 0)]))
  else if k = 5 then (p.1.rest 3, (p.2.1, p.2.2 ++ List.replicate ((399 + p.1.next 3).toNat - p.2.2.length) (0, List.replicate 64 0)))
  else p
def SV.disk (s : SV) : SV × DV := bentF (s.good.1.next 30) (s.good.1.rest 30, s.good.2)

theorem PAcc.newZ {T : Nat → Nat} {Z : Nat → Prop} {B : Nat} {w : World} {v : Value} {ws : List WV} (h : PAcc T Z B w v ws) {g0 : Nat} (hg0 : w.heap.size ≤ g0) : PAcc (fun g => if g = g0 then 0 else T g) (fun g => g = g0) B w v ws := by
  refine ⟨h.row, fun g hg => ?_, fun i hi => ⟨?_, (h.rows i hi).2⟩, fun g hg => ?_, fun g hg => ?_⟩
  · have := (h.row.lt g hg).2
    show (if g = g0 then 0 else T g) = 1
    rw [if_neg (by omega)]; exact h.tag g hg
  · exact (h.rows i hi).1.lts.mono (fun g hg => by
      refine ⟨?_, hg.1.2⟩
      show (if g = g0 then 0 else T g) = 2 + i
      rw [if_neg (by omega)]; exact hg.1.1)
  · show (if g = g0 then 0 else T g) = 0
    rw [if_pos hg]
  · have hg' : 2 ≤ if g = g0 then 0 else T g := hg
    by_cases e : g = g0
    · rw [if_pos e] at hg'; omega
    · rw [if_neg e] at hg'
      exact h.u8 g hg'
section
variable {T : Nat → Nat} {B : Nat} {w w' : World} {a : Option Addr} {n ca : Nat} {p : Option Addr} {m cp : Nat} {vs : List WV} {xs : List Int} {val : List (Int × List Int)}
/-- One byte behind the durable ones. -/
theorem DAt.push1 (h : DAt T B w a n ca p m cp vs xs val) (hg : w.grownBy w' (Value.slice a n ca).ownBlock) {v' : Value} {x : Int} (hown : w'.ownsRow B 5 1 v' (n + 1) (u8s xs ++ [.int .u8 x])) (hat : v'.ownBlock = (Value.slice a n ca).ownBlock ∨ v'.ownBlock = some w.heap.size) (hn : n + 1 ≤ 2097152) :
    ∃ T' a' ca', v' = .slice a' (n + 1) ca' ∧ DAt T' B w' a' (n + 1) ca' p m cp vs (xs ++ [x]) val := by
  obtain ⟨a', ca', rfl⟩ := owns_shape hown
  have hown' : w'.ownsRow B 5 1 (.slice a' (n + 1) ca') (n + 1) (u8s (xs ++ [x])) := by rw [u8s, List.map_append]; exact hown
  rcases hat with hat | hat
  · refine ⟨T, a', ca', rfl, hown', ?_, h.len, h.val, hn, h.dm⟩
    exact (h.pend.kept (grown_kept hg) (fun g hg => h.pend.z g hg)).subZ (fun g hg => by rw [← hat]; exact hg)
  · refine ⟨_, a', ca', rfl, hown', ((h.pend.newZ (Nat.le_refl _)).kept (grown_kept hg) (fun g hg => ?_)).subZ (fun g hg => ?_), h.len, h.val, hn, h.dm⟩
    · have := h.pend.z g hg
      show (if g = w.heap.size then 0 else T g) = 0
      rw [this]; simp
    · rw [hat] at hg
      injection hg with hg
      exact hg.symm
/-- New durable bytes. -/
theorem DAt.newDur (h : DAt T B w a n ca p m cp vs xs val) (hg : w.grownBy w' none) {n' ca' : Nat} {xs' : List Int} (hown : w'.ownsRow B 5 1 (.slice (some ⟨w.heap.size, 0, none⟩) n' ca') n' (u8s xs')) (hn : n' ≤ 2097152) :
    ∃ T', DAt T' B w' (some ⟨w.heap.size, 0, none⟩) n' ca' p m cp vs xs' val := by
  refine ⟨_, hown, ((h.pend.newZ (Nat.le_refl _)).kept (grown_kept hg) (fun g hg => by cases hg)).subZ (fun g hg => ?_), h.len, h.val, hn, h.dm⟩
  simp only [Value.ownBlock, Option.some.injEq] at hg
  exact hg.symm
/-- One more write. -/
theorem DAt.pushW (h : DAt T B w a n ca p m cp vs xs val) {w1 w2 : World} (hb : Below w.heap.size w w1) {o : Obj} {gn l c : Nat} {blk : Int} {bs : List Int} {cur : Array Value} {v' : Value}
    (hgn : w.heap.size ≤ gn) (hBw : B ≤ w.heap.size) (hr : Row .u8 (fun x => x = gn) w1 (some ⟨gn, 0, none⟩) l bs) (hbl : l ≤ 2097152) (hcur : w1.heap[gn]? = some (.cells cur 5 (0, 0)))
    (hg2 : (w1.alloc o).grownBy w2 (Value.slice p m cp).ownBlock) (hown2 : w2.ownsRow B 43 2 v' (m + 1) (wvL vs ++ [.int .i64 blk, .slice (some ⟨gn, 0, none⟩) l c])) (hm : m + 1 ≤ 2097152) :
    ∃ T' p' cp', v' = .slice p' (m + 1) cp' ∧ DAt T' B w2 a n ca p' (m + 1) cp' (vs ++ [(⟨blk, some ⟨gn, 0, none⟩, l, c, bs⟩ : WV)]) xs (val ++ [(blk, bs)]) := by
  obtain ⟨g', cap', rfl⟩ : ∃ g' cap', v' = .slice (some ⟨g', 0, none⟩) (m + 1) cap' := by
    rcases hown2.2 with ⟨_, h0⟩ | ⟨g', cap', cur, e, _⟩
    · omega
    · exact ⟨g', cap', e⟩
  have hl : bs.length = l := hr.1
  subst hl
  have hlen := h.len
  subst hlen
  have k02 : Kept (fun g => (Value.slice p vs.length cp).ownBlock = some g) w w2 := (Kept.of_below hb _).trans ((Kept.of_below ((Below.refl _ w1).alloc (Nat.le_refl _) o) _).trans (grown_kept hg2))
  have hnd : ∀ g, (Value.slice a n ca).ownBlock = some g → ¬ (Value.slice p vs.length cp).ownBlock = some g := fun g hg e => by
    have h1 := h.pend.tag g e
    have h2 := h.pend.z g hg
    omega
  have hdur : w2.ownsRow B 5 1 (.slice a n ca) n (u8s xs) := row_kept h.dur k02 hnd
  refine ⟨_, _, cap', rfl, hdur, (h.pend.step hb (o := o) hgn hBw hr hbl hcur hg2 hown2 (fun g hg => ?_)).1, by simp, ?_, h.dn, hm⟩
  · refine ⟨(h.dur.lt g hg).2, ?_⟩
    obtain ⟨c1, hc1⟩ := owns_tag hdur hg
    exact ⟨_, hc1, fun cur => cells_neD (by decide)⟩
  · rw [← h.val]
    simp [wVal]
end
def DV.small (D : DV) : Prop := D.1.length ≤ 76800 ∧ D.2.length ≤ 400
theorem valid_small {n : Nat} {val : List (Int × List Int)} (h : validB n val = true) : n ≤ 76800 ∧ val.length ≤ 400 := by
  obtain ⟨h1, h2, h3, h4, _⟩ := (validB_iff n val).1 h
  omega
theorem DV.write_small (D : DV) (b : Int) (X : List Int) : (D.write b X).small := by
  unfold DV.write DV.small dwX dwW
  by_cases h : dwB D.1.length D.2 b 64 = true
  · simp only [h, if_true]
    unfold dwB at h
    simp only [Bool.and_eq_true, decide_eq_true_eq] at h
    obtain ⟨h1, h2, _⟩ := h
    have := valid_small h1
    simp
    omega
  · simp [h]
theorem stlAll_len {n : Nat} {xs : List Int} {val : List (Int × List Int)} (hn : xs.length = n) (h : validB n val = true) : (stlAll xs val).length = n := by
  obtain ⟨h1, h2, h3, h4, h5⟩ := (validB_iff n val).1 h
  refine stl_len _ _ hn (fun y hy => ?_)
  obtain ⟨x, hx, rfl⟩ := List.mem_map.1 hy
  obtain ⟨g1, g2, _⟩ := h5 x hx
  simp only
  omega
theorem DV.barrier_small (D : DV) : D.barrier.small := by
  unfold DV.barrier DV.small dbX
  by_cases h : validB D.1.length D.2 = true
  · rw [if_pos h, stlAll_len rfl h]
    have := valid_small h
    simp
    omega
  · simp [h]
theorem good2_small (n : Int) : ∀ (k : Nat) (p : SV × DV), p.2.small → (good2 n k p).2.small
  | 0, p, h => h
  | k + 1, p, h => good2_small n k _ (DV.write_small _ _ _)
theorem SV.good_small (s : SV) : s.good.2.small := good2_small _ _ _ (DV.barrier_small _)

/-- One make, at its operation. -/
theorem wp_make1 {P : Program} (w : World) {o : Oper} {a : Act} {K : Act → World → Prop} {Q : Exit → Act → World → Prop} (l c : Operand) (t : TypeId) (hop : o.op = Op.makeSlice t l c)
    (base : Nat) (e : TypeId) (i : TypeInfo) (z : Value) (size : Nat) (h1 : P.underlying t = some (.slice e)) (h2 : P.info? e = some i) (h3 : i.zero = some z) (h4 : i.size = size)
    (n : Nat) (hl : a.eval l = .int .i64 (n : Int)) (hc : a.eval c = .int .i64 (n : Int)) (b2 : i.bytes * n ≤ 281474976710656) (b3 : n ≤ maxLen) (b4 : base ≤ w.heap.size)
    (hK : ∀ w', w'.ownsRow base e size (.slice (some ⟨w.heap.size, 0, none⟩) n n) n (madeCells z.cells (n * size)).toList → w.grownBy w' none → K (a.put o.dst (.slice (some ⟨w.heap.size, 0, none⟩) n n)) w') : o.wp P a w K Q := by
  obtain ⟨w', hrun, r1, r2⟩ := run_make_full (P := P) w base t e i z size h1 h2 h3 h4 .i64 .i64 n b2 b3 b4
  have := hK w' r1 r2
  unfold Oper.wp
  simpa [execOp, hop, hl, hc, hrun, Result.andThen, Oper.upon] using this
section
variable {K L : Nat} {W : World} {x y : Value} {T : Nat → Nat} {a : Option Addr} {n ca : Nat} {p : Option Addr} {m cp : Nat} {vs : List WV} {D : DV}
theorem DCell.store0 (hKL : K ≤ L) (hc : W.heap[L]? = some (.cells #[x, .slice p m cp] 33 (0, 0))) (h : DAt T K W a n ca p m cp vs D.1 D.2) :
    DCell K L (W.setCell ⟨L, 0, none⟩ (.slice a n ca)) D := by
  refine ⟨hKL, _, vs, a, n, ca, p, m, cp, ?_, h.keptL hc (Kept.setCell W ⟨L, 0, none⟩ _ (fun g => g = L) rfl)⟩
  simp [World.setCell, Array.getElem?_modify, hc]
theorem DCell.store1 (hKL : K ≤ L) (hc : W.heap[L]? = some (.cells #[.slice a n ca, y] 33 (0, 0))) (h : DAt T K W a n ca p m cp vs D.1 D.2) :
    DCell K L (W.setCell ⟨L, 1, none⟩ (.slice p m cp)) D := by
  refine ⟨hKL, _, vs, a, n, ca, p, m, cp, ?_, h.keptL hc (Kept.setCell W ⟨L, 1, none⟩ _ (fun g => g = L) rfl)⟩
  simp [World.setCell, Array.getElem?_modify, hc]
end
/-- The source, the answer's variable and what is kept, in one. -/
structure Rst (w : World) (B N : Nat) (W : World) (s : SV) : Prop where
  src : SrcF W B N s
  kp : Kept (fun g => g = B) w W
  res : W.heap[w.heap.size]? = some (.cells #[.slice none 0 0, .slice none 0 0] 33 (0, 0))
  hB : B < w.heap.size
  hN : N ≤ w.heap.size
theorem Rst.below {w W W' : World} {B N : Nat} {s : SV} (h : Rst w B N W s) (hb : Below W.heap.size W W') : Rst w B N W' s :=
  ⟨h.src.below hb, h.kp.trans (Kept.of_below hb _), (hb.block _ (Array.getElem?_eq_some_iff.1 h.res).1).trans h.res, h.hB, h.hN⟩
theorem Rst.at {w W W' : World} {B N L : Nat} {s : SV} (h : Rst w B N W s) (hk : Kept (fun g => g = L) W W') (hL : w.heap.size < L) : Rst w B N W' s := by
  have hB := h.hB
  have hN := h.hN
  refine ⟨h.src.kept hk (by omega) (fun g hg => by omega), ?_, (hk.block _ (Array.getElem?_eq_some_iff.1 h.res).1 (by omega)).trans h.res, hB, hN⟩
  exact ⟨hk.1.trans h.kp.1, hk.2.trans h.kp.2, hk.3.trans h.kp.3, Nat.le_trans h.kp.size hk.size, fun j hj hjB => (hk.block j (Nat.lt_of_lt_of_le hj h.kp.size) (by omega)).trans (h.kp.block j hj hjB)⟩
theorem Rst.next {w W W' : World} {B N : Nat} {s s' : SV} (h : Rst w B N W s) (hk : Kept (fun g => g = B) W W') (hs : SrcF W' B N s') : Rst w B N W' s' :=
  ⟨hs, h.kp.trans hk, (hk.block _ (Array.getElem?_eq_some_iff.1 h.res).1 (by have := h.hB; omega)).trans h.res, h.hB, h.hN⟩
theorem Rst.grown {w W W' : World} {B N : Nat} {s : SV} {r : Option Nat} (h : Rst w B N W s) (hg : W.grownBy W' r) (hr : ∀ g, r = some g → w.heap.size < g) : Rst w B N W' s := by
  have hk := grown_kept hg
  have hB := h.hB
  have hN := h.hN
  refine ⟨h.src.kept hk (fun e => by have := hr _ e; omega) (fun g hg e => by have := hr _ e; omega), ?_, (hk.block _ (Array.getElem?_eq_some_iff.1 h.res).1 (fun e => by have := hr _ e; omega)).trans h.res, hB, hN⟩
  exact ⟨hk.1.trans h.kp.1, hk.2.trans h.kp.2, hk.3.trans h.kp.3, Nat.le_trans h.kp.size hk.size, fun j hj hjB => (hk.block j (Nat.lt_of_lt_of_le hj h.kp.size) (fun e => by have := hr _ e; omega)).trans (h.kp.block j hj hjB)⟩
/-- At the return. -/
theorem disk_end {B N L : Nat} {w W : World} {q : SV × DV} (hD : DCell (w.heap.size + 1) L W q.2) (h : Rst w B N W q.1) :
    ∃ a n ca p m cp, (W.cell? ⟨L, 0, none⟩ = some (.slice a n ca) ∧ W.cell? ⟨L, 1, none⟩ = some (.slice p m cp)) ∧ (W.cell? ⟨w.heap.size, 0, none⟩ = some (.slice none 0 0) ∧ W.cell? ⟨w.heap.size, 1, none⟩ = some (.slice none 0 0) ∧ W.frozen? ⟨w.heap.size, 0, none⟩ = false ∧ W.frozen? ⟨w.heap.size, 1, none⟩ = false) ∧
      Hid (∀ u1 u2, ∃ T vs, DAt T w.heap.size ((W.setCell ⟨w.heap.size, 0, none⟩ u1).setCell ⟨w.heap.size, 1, none⟩ u2) a n ca p m cp vs q.2.1 q.2.2 ∧ SrcF ((W.setCell ⟨w.heap.size, 0, none⟩ u1).setCell ⟨w.heap.size, 1, none⟩ u2) B N q.1 ∧ Kept (fun g => g = B) w ((W.setCell ⟨w.heap.size, 0, none⟩ u1).setCell ⟨w.heap.size, 1, none⟩ u2)) := by
  obtain ⟨_, T, vs, a, n, ca, p, m, cp, hc, hA⟩ := hD
  refine ⟨a, n, ca, p, m, cp, ⟨(two_cells hc).1, (two_cells hc).2.1⟩, two_cells h.res, fun u1 u2 => ?_⟩
  exact ⟨_, vs, (hA.keptL h.res ((Kept.setCell W ⟨w.heap.size, 0, none⟩ _ (fun g => g = w.heap.size) rfl).trans (Kept.setCell _ ⟨w.heap.size, 1, none⟩ _ (fun g => g = w.heap.size) rfl))).base (by omega), h.src.store h.hB h.hN _ _, kept_store h.kp (Nat.le_refl _) _ _⟩
end Go.Proofs.Ytkkammbfomiofaa
