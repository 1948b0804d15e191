/-
  Cgn, Cbn.
-/
import Derived.Test.YtkkammbfomiofaaDoorDsf
import Derived.Test.YtkkammbfomiofaaDoorEnt
import Derived.Test.YtkkammbfomiofaaDoorGen
/-
  General lemmas, for the draws in a seat without the disk.
-/
namespace Go.Proofs.YtkkammbfomiofaaDoor
open Go.RowKit
set_option linter.unusedSimpArgs false
set_option linter.unusedVariables false

theorem grown_kept {w w' : World} {row : Option Nat} (h : w.grownBy w' row) : Kept (fun g => row = some g) w w' :=
  ⟨h.os, h.tape, h.output, h.size, fun j hj hg => h.block j hj (fun e => hg e.symm)⟩
theorem owns_tag {w : World} {B e sz n : Nat} {v : Value} {xs : List Value} (h : w.ownsRow B e sz v n xs) {g : Nat} (hg : v.ownBlock = some g) : ∃ cur, w.heap[g]? = some (.cells cur e (0, 0)) := by
  rcases h.2 with ⟨rfl, _⟩ | ⟨g', cap, cur, rfl, _, hh, _⟩
  · simp [Value.ownBlock] at hg
  · simp only [Value.ownBlock, Option.some.injEq] at hg
    subst hg
    exact ⟨cur, hh⟩
theorem row_kept {w w' : World} {B : Nat} {v : Value} {e sz n : Nat} {vs : List Value} {G : Nat → Prop} (h : w.ownsRow B e sz v n vs) (hk : Kept G w w') (hG : ∀ g, v.ownBlock = some g → ¬ G g) : w'.ownsRow B e sz v n vs := by
  refine ⟨h.1, h.2.imp id ?_⟩
  rintro ⟨g, cap, cur, rfl, hg, hh, rest⟩
  exact ⟨g, cap, cur, rfl, hg, (hk.block g (Array.getElem?_eq_some_iff.1 hh).1 (hG g rfl)).trans hh, rest⟩
theorem heap_set_ne {W : World} {g i j : Nat} {v : Value} (h : g ≠ j) : (W.setCell ⟨g, i, none⟩ v).heap[j]? = W.heap[j]? := by simp [World.setCell, Array.getElem?_modify, h]
theorem kept_grown {B : Nat} {w W W' : World} {r : Option Nat} (h : Kept (fun g => g = B) w W) (hg : W.grownBy W' r) (hr : ∀ g, r = some g → w.heap.size ≤ g) : Kept (fun g => g = B) w W' :=
  ⟨hg.os.trans h.1, hg.tape.trans h.2, hg.output.trans h.3, Nat.le_trans h.size hg.size, fun j hj hjB => (hg.block j (Nat.lt_of_lt_of_le hj h.size) (fun e => by have := hr j e.symm; omega)).trans (h.block j hj hjB)⟩
theorem owns_capC {w : World} {B e sz n : Nat} {a : Option Addr} {c : Nat} {vs : List Value} (h : w.ownsRow B e sz (.slice a n c) n vs) : c ≤ 9223372036854775807 := by
  rcases h.2 with ⟨e1, h0⟩ | ⟨g, cap, cur, e1, hB, hh, hcap, hm, hcs, htk⟩
  · injection e1 with e1 e2 e3
    omega
  · injection e1 with e1 e2 e3
    unfold maxLen at hm
    omega
/-- Cells of a row are written. -/
def spl {α : Type} (xs : List α) (o : Nat) (vs : List α) : List α := xs.take o ++ vs ++ xs.drop (o + vs.length)
theorem spl_len {α : Type} (xs : List α) (o : Nat) (vs : List α) (h : o + vs.length ≤ xs.length) : (spl xs o vs).length = xs.length := by simp [spl]; omega
theorem spl_take {α : Type} (L : List α) (o : Nat) (vs : List α) (N : Nat) (h : o + vs.length ≤ N) (hN : N ≤ L.length) : (L.take o ++ vs ++ L.drop (o + vs.length)).take N = spl (L.take N) o vs := by
  have h1 : (L.take o ++ vs).length = o + vs.length := by simp; omega
  rw [List.take_append, h1, List.take_of_length_le (by omega), spl, List.take_take, Nat.min_eq_left (by omega), List.drop_take]
theorem heap_setCells (b : Nat) (e : TypeId) : ∀ (vs : List Value) (o : Nat) (w : World) (cur : Array Value), w.heap[b]? = some (.cells cur e (0, 0)) → o + vs.length ≤ cur.size →
    (w.setCells b o vs).heap[b]? = some (.cells (cur.toList.take o ++ vs ++ cur.toList.drop (o + vs.length)).toArray e (0, 0))
  | [], o, w, cur, h, hl => by simpa [World.setCells] using h
  | v :: r, o, w, cur, h, hl => by
    simp only [List.length_cons] at hl
    have h1 : (w.setCell ⟨b, o, none⟩ v).heap[b]? = some (.cells (cur.setIfInBounds o v) e (0, 0)) := by
      simp [World.setCell, Array.getElem?_modify, h]
    have := heap_setCells b e r (o + 1) (w.setCell ⟨b, o, none⟩ v) (cur.setIfInBounds o v) h1 (by simp; omega)
    show ((w.setCell ⟨b, o, none⟩ v).setCells b (o + 1) r).heap[b]? = _
    rw [this]
    have hl2 : o < cur.toList.length := by simp; omega
    congr 3
    simp only [Array.toList_setIfInBounds]
    rw [List.take_succ_eq_append_getElem (by simpa using hl2), List.take_set_of_le (Nat.le_refl _), List.getElem_set_self, List.drop_set_of_lt (by omega)]
    simp only [List.append_assoc, List.cons_append, List.nil_append, List.length_cons]
    rw [show o + 1 + r.length = o + (r.length + 1) by omega]
theorem owns_setCells {w : World} {B e sz n g c : Nat} {xs vs : List Value} (h : w.ownsRow B e sz (.slice (some ⟨g, 0, none⟩) n c) n xs) (o : Nat) (hl : o + vs.length ≤ n * sz) :
    (w.setCells g o vs).ownsRow B e sz (.slice (some ⟨g, 0, none⟩) n c) n (spl xs o vs) := by
  have hxl := h.1
  refine ⟨by rw [spl_len _ _ _ (by omega)]; exact hxl, ?_⟩
  rcases h.2 with ⟨e1, _⟩ | ⟨g', cap, cur, e1, hB, hh, hcap, hmx, hcs, htk⟩
  · cases e1
  injection e1 with e1 e2 e3
  injection e1 with e1
  injection e1 with e1
  subst e1; subst e3
  have hsz : n * sz ≤ cur.size := by rw [hcs]; exact Nat.mul_le_mul_right _ hcap
  refine .inr ⟨g, c, _, rfl, hB, heap_setCells g e vs o w cur hh (by omega), hcap, hmx, by simp; omega, ?_⟩
  simp only [List.toList_toArray]
  rw [← htk]
  exact spl_take _ _ _ _ hl (by simpa using hsz)
/-- An owned row that is not empty has an address. -/
theorem owns_range {w : World} {B e sz n : Nat} {a : Option Addr} {c : Nat} {vs : List Value} (h : w.ownsRow B e sz (.slice a n c) n vs) (i k : Nat) (hn : 0 < n) : ∃ g, a = some ⟨g, 0, none⟩ ∧ n ≤ c ∧ True := by
  rcases h.2 with ⟨e1, h0⟩ | ⟨g, cap, cur, e1, hB, hh, hcap, _, hcs, htk⟩
  · omega
  · injection e1 with e1 e2 e3
    subst e3
    exact ⟨g, e1, hcap, trivial⟩
theorem two_cells {w1 : World} {g : Nat} {t : TypeId} {x y : Value} (h : w1.heap[g]? = some (.cells #[x, y] t (0, 0))) :
    w1.cell? ⟨g, 0, none⟩ = some x ∧ w1.cell? ⟨g, 1, none⟩ = some y ∧ w1.frozen? ⟨g, 0, none⟩ = false ∧ w1.frozen? ⟨g, 1, none⟩ = false := by
  refine ⟨by rw [cell_of_row w1 g 0 _ _ _ h]; rfl, by rw [cell_of_row w1 g 1 _ _ _ h]; rfl, ?_, ?_⟩ <;> simp [World.frozen?, h]
end Go.Proofs.YtkkammbfomiofaaDoor

/-
  The draw of a name.
-/
namespace Go.Proofs.YtkkammbfomiofaaDoor
open Go.RowKit
set_option linter.unusedSimpArgs false
set_option linter.unusedVariables false

set_option maxHeartbeats 4000000 in
set_option maxRecDepth 100000 in
theorem l2DrawName_any (B N : Nat) (s : SV) (w : World) (h : SrcF w B N s) (hN : N ≤ w.heap.size) :
    Calls Tryd.prog 39 #[.pointer (some ⟨B, 0, none⟩)] w fun e w' => ∃ nm s', e = .returned (.string nm) ∧ nm.size ≤ 16 ∧ SrcF w' B N s' ∧ Kept (fun g => g = B) w w' := by
  have hBl := h.lt
  have HA := Hid.out (fun o : Obj => h.below ((Below.refl _ w).alloc (Nat.le_refl _) o))
  go_enter Tryd.func39, Tryd.ntmps39
  go_wp2_with fail
  refine (l1NextF_any B N 8 s _ (HA _) (by omega) (by omega)).mono ?_
  rintro e w1 ⟨rfl, hs1, hk1⟩
  obtain ⟨u0, u1⟩ := SV.next_range (s := s) (m := 8) (by omega)
  have r1 := (hk1.block w.heap.size (by simp) (by omega)).trans (heap_alloc_new w _)
  have HK : Hid (Kept (fun g => g = B) w w1) := (Kept.of_below ((Below.refl _ _).alloc (Nat.le_refl _) _) _).trans hk1
  have HS : Hid (∃ s', SrcF w1 B N s') := ⟨_, hs1⟩
  generalize s.next 8 = v at *
  clear hk1 hs1 HA h
  have c : ∀ q, w1.cell? ⟨w.heap.size, q, none⟩ = _ := fun q => cell_of_row w1 w.heap.size q _ _ _ r1
  have c0 := c 0
  have c1 := c 1
  have c2 := c 2
  have c3 := c 3
  have c4 := c 4
  have c5 := c 5
  have c6 := c 6
  have c7 := c 7
  clear c r1
  simp at c0 c1 c2 c3 c4 c5 c6 c7
  have hv : v = 0 ∨ v = 1 ∨ v = 2 ∨ v = 3 ∨ v = 4 ∨ v = 5 ∨ v = 6 ∨ v = 7 := by omega
  rcases hv with rfl | rfl | rfl | rfl | rfl | rfl | rfl | rfl
  all_goals
    go_wp2
    go_ret
    obtain ⟨s', hs'⟩ := HS.out
    exact ⟨_, s', rfl, by decide, hs', HK.out⟩
end Go.Proofs.YtkkammbfomiofaaDoor
