/-
  The model's DecodeInode: the walk.
-/
import Derived.Test.YtkkammbfomiofaaDoorRin
import Derived.Test.YtkkammbfomiofaaDoorInz
namespace Go.Proofs.YtkkammbfomiofaaDoor
open Go.RowKit
set_option linter.unusedSimpArgs false
set_option linter.unusedVariables false

/-- What the model takes for the name: the bytes ahead of the first zero. -/
def nzL (xs : List Int) (i : Nat) : Prop := ∀ j, j < i → xs[j]?.getD 0 ≠ 0
structure Dsi (w W : World) (xs : List Int) (L : Nat) (N : ByteArray) (Z : Int) (ad : Option Addr) (j cc : Nat) : Prop where
  var : W.heap[L]? = some (.cells #[.string N, .int .i64 Z, .slice ad j cc] 25 (0, 0))
  res : W.heap[w.heap.size]? = some (.cells #[.bool false, .string ⟨#[]⟩, .int .i64 0, .slice none 0 0] 29 (0, 0))
  bel : Below w.heap.size w W
  own : W.ownsRow w.heap.size 2 1 (.slice ad j cc) j (i64G (inL xs j))
  hL : w.heap.size < L
theorem strOf_snoc (xs : List Int) (x : Int) : strOf xs ++ strOf [x] = strOf (xs ++ [x]) := by
  unfold strOf
  rw [ByteArray.mk_append_mk]
  simp
theorem strOf_len (xs : List Int) : (strOf xs).size = xs.length := by simp [strOf, ByteArray.size]
theorem Dsi.drew {w W : World} {xs : List Int} {L : Nat} {N : ByteArray} {Z : Int} {ad : Option Addr} {j cc : Nat} (h : Dsi w W xs L N Z ad j cc) : Dsi w W.drew xs L N Z ad j cc :=
  ⟨h.var, h.res, h.bel.drew, gn_kept h.own (Kept.drew W (fun _ => False)) (fun _ _ h => h), h.hL⟩
theorem Dsi.alloc {w W : World} {xs : List Int} {L : Nat} {N : ByteArray} {Z : Int} {ad : Option Addr} {j cc : Nat} (h : Dsi w W xs L N Z ad j cc) (o : Obj) : Dsi w (W.alloc o) xs L N Z ad j cc := by
  have bo : Below W.heap.size W (W.alloc o) := (Below.refl _ W).alloc (Nat.le_refl _) o
  exact ⟨(bo.block _ (Array.getElem?_eq_some_iff.1 h.var).1).trans h.var, (bo.block _ (Array.getElem?_eq_some_iff.1 h.res).1).trans h.res, h.bel.trans (bo.mono h.bel.size), h.own.alloc o, h.hL⟩
theorem Dsi.name {w W : World} {xs : List Int} {L : Nat} {N : ByteArray} {Z : Int} {ad : Option Addr} {j cc : Nat} (h : Dsi w W xs L N Z ad j cc) (N' : ByteArray) : Dsi w (W.setCell ⟨L, 0, none⟩ (.string N')) xs L N' Z ad j cc := by
  have hL := h.hL
  have kk : Kept (fun g => g = L) W (W.setCell ⟨L, 0, none⟩ (.string N')) := Kept.setCell W ⟨L, 0, none⟩ _ _ rfl
  refine ⟨by simp [World.setCell, Array.getElem?_modify, h.var], by rw [gn_set (by omega)]; exact h.res, h.bel.setCell (by show w.heap.size ≤ L; omega) _, gn_kept h.own kk (fun g hg e => gn_ne h.own h.var (by decide) (by rw [← e]; exact hg)), hL⟩
theorem Dsi.push {w W w5 : World} {xs : List Int} {L : Nat} {N : ByteArray} {Z : Int} {ad : Option Addr} {j cc : Nat} (h : Dsi w W xs L N Z ad j cc) {o : Obj} {v : Value}
    (hg : (W.alloc o).grownBy w5 (Value.slice ad j cc).ownBlock) (ho : w5.ownsRow w.heap.size 2 1 v (j + 1) (i64G (inL xs j) ++ [.int .i64 (inLid xs j)])) :
    ∃ a5 c5, v = .slice a5 (j + 1) c5 ∧ (w5.cell? ⟨L, 2, none⟩ = some (.slice ad j cc) ∧ w5.frozen? ⟨L, 2, none⟩ = false) ∧ Dsi w (w5.setCell ⟨L, 2, none⟩ (.slice a5 (j + 1) c5)) xs L N Z a5 (j + 1) c5 := by
  obtain ⟨a5, c5, rfl⟩ := gn_shape ho
  have hL := h.hL
  have h1 := h.alloc o
  have nL := gn_ne h1.own h1.var (by decide)
  have nR := gn_ne h1.own h1.res (by decide)
  have v5 := (hg.block L (Array.getElem?_eq_some_iff.1 h1.var).1 (fun e => nL e.symm)).trans h1.var
  have s5 := (hg.block w.heap.size (Array.getElem?_eq_some_iff.1 h1.res).1 (fun e => nR e.symm)).trans h1.res
  have b5 : Below w.heap.size w w5 := h1.bel.trans ((gn_grown hg).below h1.bel.size (fun g hg' => (h1.own.lt g hg').1))
  have kk : Kept (fun g => g = L) w5 (w5.setCell ⟨L, 2, none⟩ (.slice a5 (j + 1) c5)) := Kept.setCell w5 ⟨L, 2, none⟩ _ _ rfl
  have n5 := gn_ne ho v5 (by decide)
  refine ⟨a5, c5, rfl, ⟨by rw [cell_of_row w5 L 2 _ _ _ v5]; rfl, by simp [World.frozen?, v5]⟩, by simp [World.setCell, Array.getElem?_modify, v5], by rw [gn_set (by omega)]; exact s5, b5.setCell (by show w.heap.size ≤ L; omega) _, ?_, hL⟩
  rw [inL_succ, i64G, List.map_append]
  exact gn_kept ho kk (fun g hg e => n5 (by rw [← e]; exact hg))
theorem byt_padS {l : List Int} (h : Byt l) (n : Nat) : Byt (padL l n) := fun x hx => by
  unfold padL at hx
  rcases List.mem_append.1 hx with hx | hx
  · exact h x hx
  · rw [List.eq_of_mem_replicate hx]; omega
theorem encI_byt (nm : ByteArray) (z : Int) (xs : List Int) : Byt (encI nm z xs) := by
  unfold encI
  split
  · unfold inoL
    refine byt_padS (fun x hx => ?_) 64
    rcases List.mem_append.1 hx with hx | hx
    · rcases List.mem_append.1 hx with hx | hx
      · refine byt_padS (fun y hy => ?_) 16 x hx
        unfold nmL at hy
        obtain ⟨b, _, rfl⟩ := List.mem_map.1 hy
        have := b.toNat_lt
        omega
      · exact beB_byt _ _ x hx
    · unfold lidL at hx
      obtain ⟨v, _, hx⟩ := List.mem_flatMap.1 hx
      exact beB_byt _ _ x hx
  · exact fun x hx => by cases hx
theorem wrap_small' (x : Int) (h0 : 0 ≤ x) (h1 : x ≤ 4194304) : IntKind.i64.wrap x = x := by simp [IntKind.wrap, IntKind.signed, IntKind.bits]; omega
/-- What the model's DecodeInode answers. -/
def SIAns (w w' : World) (e : Ending) (xs : List Int) : Prop := Below w.heap.size w w' ∧ ∃ i, i ≤ 16 ∧ nzL xs i ∧ (i = 16 ∨ xs[i]?.getD 0 = 0) ∧
      ((¬ (inZ xs ≤ 1408 ∧ encI (strOf (xs.take i)) (inZ xs) (inL xs (inK xs)) = xs) ∧ e = .returned (.agg #[.bool false, .string ⟨#[]⟩, .int .i64 0, .slice none 0 0])) ∨
       ((inZ xs ≤ 1408 ∧ encI (strOf (xs.take i)) (inZ xs) (inL xs (inK xs)) = xs) ∧ ∃ a c, e = .returned (.agg #[.bool true, .string (strOf (xs.take i)), .int .i64 (inZ xs), .slice a (inK xs) c]) ∧ w'.ownsRow w.heap.size 2 1 (.slice a (inK xs) c) (inK xs) (i64G (inL xs (inK xs)))))
theorem four_ofS {w : World} {g : Nat} {x0 x1 x2 x3 : Value} {t : TypeId} (k1 : w.heap[g]? = some (.cells #[x0, x1, x2, x3] t (0, 0))) :
    (w.cell? ⟨g, 0, none⟩ = some x0 ∧ w.cell? ⟨g, 1, none⟩ = some x1 ∧ w.cell? ⟨g, 2, none⟩ = some x2 ∧ w.cell? ⟨g, 3, none⟩ = some x3) ∧ w.frozen? ⟨g, 0, none⟩ = false ∧ w.frozen? ⟨g, 1, none⟩ = false ∧ w.frozen? ⟨g, 2, none⟩ = false ∧ w.frozen? ⟨g, 3, none⟩ = false := by
  refine ⟨⟨?_, ?_, ?_, ?_⟩, ?_, ?_, ?_, ?_⟩
  · rw [cell_of_row w g 0 _ _ _ k1]; rfl
  · rw [cell_of_row w g 1 _ _ _ k1]; rfl
  · rw [cell_of_row w g 2 _ _ _ k1]; rfl
  · rw [cell_of_row w g 3 _ _ _ k1]; rfl
  all_goals simp [World.frozen?, k1]
end Go.Proofs.YtkkammbfomiofaaDoor
