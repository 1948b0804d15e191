/-
  The cached disk: barrier.
-/
import Derived.Test.YtkkammbfomiofaaCds
namespace Go.Proofs.Ytkkammbfomiofaa
open Go.RowKit
set_option linter.unusedSimpArgs false
set_option linter.unusedVariables false

theorem heap_setCells (b : Nat) (e : TypeId) : ∀ (vs : List Value) (o : Nat) (w : World) (cur : Array Value), w.heap[b]? = some (.cells cur e (0, 0)) → o + vs.length ≤ cur.size →
    (w.setCells b o vs).heap[b]? = some (.cells (cur.toList.take o ++ vs ++ cur.toList.drop (o + vs.length)).toArray e (0, 0))
  | [], o, w, cur, h, hl => by simpa [World.setCells] using h
  | v :: r, o, w, cur, h, hl => by
    simp only [List.length_cons] at hl
    have h1 : (w.setCell ⟨b, o, none⟩ v).heap[b]? = some (.cells (cur.setIfInBounds o v) e (0, 0)) := by
      simp [World.setCell, Array.getElem?_modify, h]
    have := heap_setCells b e r (o + 1) (w.setCell ⟨b, o, none⟩ v) (cur.setIfInBounds o v) h1 (by simp; omega)
    show ((w.setCell ⟨b, o, none⟩ v).setCells b (o + 1) r).heap[b]? = _
    rw [this]
    have hl2 : o < cur.toList.length := by simp; omega
    congr 3
    simp only [Array.toList_setIfInBounds]
    rw [List.take_succ_eq_append_getElem (by simpa using hl2), List.take_set_of_le (Nat.le_refl _), List.getElem_set_self, List.drop_set_of_lt (by omega)]
    simp only [List.append_assoc, List.cons_append, List.nil_append, List.length_cons]
    rw [show o + 1 + r.length = o + (r.length + 1) by omega]

/-- Cells of a row are written. -/
def spl {α : Type} (xs : List α) (o : Nat) (vs : List α) : List α := xs.take o ++ vs ++ xs.drop (o + vs.length)
theorem spl_len {α : Type} (xs : List α) (o : Nat) (vs : List α) (h : o + vs.length ≤ xs.length) : (spl xs o vs).length = xs.length := by simp [spl]; omega
theorem u8s_spl (xs : List Int) (o : Nat) (vs : List Int) : u8s (spl xs o vs) = spl (u8s xs) o (u8s vs) := by simp [spl, u8s, List.map_take, List.map_drop]
theorem spl_take {α : Type} (L : List α) (o : Nat) (vs : List α) (N : Nat) (h : o + vs.length ≤ N) (hN : N ≤ L.length) : (L.take o ++ vs ++ L.drop (o + vs.length)).take N = spl (L.take N) o vs := by
  have h1 : (L.take o ++ vs).length = o + vs.length := by simp; omega
  rw [List.take_append, h1, List.take_of_length_le (by omega), spl, List.take_take, Nat.min_eq_left (by omega), List.drop_take]
theorem owns_setCells {w : World} {B e sz n g c : Nat} {xs vs : List Value} (h : w.ownsRow B e sz (.slice (some ⟨g, 0, none⟩) n c) n xs) (o : Nat) (hl : o + vs.length ≤ n * sz) :
    (w.setCells g o vs).ownsRow B e sz (.slice (some ⟨g, 0, none⟩) n c) n (spl xs o vs) := by
  have hxl := h.1
  refine ⟨by rw [spl_len _ _ _ (by omega)]; exact hxl, ?_⟩
  rcases h.2 with ⟨e1, _⟩ | ⟨g', cap, cur, e1, hB, hh, hcap, hmx, hcs, htk⟩
  · cases e1
  injection e1 with e1 e2 e3
  injection e1 with e1
  injection e1 with e1
  subst e1; subst e3
  have hsz : n * sz ≤ cur.size := by rw [hcs]; exact Nat.mul_le_mul_right _ hcap
  refine .inr ⟨g, c, _, rfl, hB, heap_setCells g e vs o w cur hh (by omega), hcap, hmx, by simp; omega, ?_⟩
  simp only [List.toList_toArray]
  rw [← htk]
  exact spl_take _ _ _ _ hl (by simpa using hsz)
theorem kept_setCells (w : World) (g o : Nat) (vs : List Value) : Kept (fun x => x = g) w (w.setCells g o vs) := by
  induction vs generalizing w o with
  | nil => exact Kept.refl _ _
  | cons v r ih => exact (Kept.setCell w ⟨g, o, none⟩ v (fun x => x = g) rfl).trans (ih _ _)

theorem clear_run {w : World} {M : Nat} {es : Array MapEntry} {clock : Nat} (hb : w.heap[M]? = some (.map es clock)) (ty : TypeId) : (Builtin.clear_ #[102] ty #[.map (some M)]).run Try.prog w = .ok (.tuple #[]) (ChangeMaps.setBlock w M (.map #[] clock)) := by
  simp [Builtin.clear_, run_underlying Try.underlying102, MapKept.run_getObj_map hb, MapKept.run_setObj_map _ hb, Result.andThen]
  rfl

set_option maxHeartbeats 1000000 in
theorem forget_any (B C nb : Nat) (xs : List Int) (ws : List (Int × List Int)) (dv wv : Value) (M : Nat) (D : DataW Unit) (w : World) (h : CD B w C nb xs ws dv wv M D) :
    Calls Try.prog 65 #[.pointer (some ⟨C, 0, none⟩)] w fun e w' => (∃ v, e = .returned v) ∧ CD B w' C nb xs [] dv (.slice none 0 0) M (.map []) ∧ Kept (fun g => g = C ∨ g = M) w w' := by
  obtain ⟨es, clock, hb, F, _, _⟩ := h.map
  have hCM := h.neM
  have hlC := h.ltC
  have hlM := h.ltM
  obtain ⟨k1, k2, k3, kf⟩ := cells3 h.cell
  obtain ⟨W1, hW1⟩ : ∃ W1, w.setCell ⟨C, 1, none⟩ (.slice none 0 0) = W1 := ⟨_, rfl⟩
  have kW : Kept (fun g => g = C) w W1 := by rw [← hW1]; exact Kept.setCell w ⟨C, 1, none⟩ _ (fun g => g = C) rfl
  have c1 : W1.heap[C]? = some (.cells #[dv, .slice none 0 0, .map (some M)] 106 (0, 0)) := by
    rw [← hW1]
    simp [World.setCell, Array.getElem?_modify, h.cell]
  have hb1 : W1.heap[M]? = some (.map es clock) := (kW.block M hlM (fun e => hCM e.symm)).trans hb
  have hcl := fun ty => clear_run hb1 ty
  obtain ⟨j1, j2, j3, _⟩ := cells3 c1
  have hfin : CD B (ChangeMaps.setBlock W1 M (.map #[] clock)) C nb xs [] dv (.slice none 0 0) M (.map []) ∧ Kept (fun g => g = C ∨ g = M) w (ChangeMaps.setBlock W1 M (.map #[] clock)) := by
    have ks : Kept (fun g => g = M) W1 (ChangeMaps.setBlock W1 M (.map #[] clock)) := ⟨rfl, rfl, rfl, by simp [ChangeMaps.setBlock], fun j _ hj => by simp [ChangeMaps.setBlock, Array.getElem?_setIfInBounds, Ne.symm hj]⟩
    have kt : Kept (fun g => g = C ∨ g = M) w (ChangeMaps.setBlock W1 M (.map #[] clock)) := (kW.mono fun g hg => .inl hg).trans (ks.mono fun g hg => .inr hg)
    have hMl : M < W1.heap.size := (Array.getElem?_eq_some_iff.1 hb1).1
    refine ⟨⟨(ks.block C (Array.getElem?_eq_some_iff.1 c1).1 hCM).trans c1, row_kept h.dur kt (fun g hg e => ?_), ⟨rfl, .inl ⟨rfl, rfl⟩⟩, ⟨#[], clock, by simp [ChangeMaps.setBlock, Array.getElem?_setIfInBounds, hMl], ⟨by simp, MapKept.stamped_empty clock, by simp⟩, Nat.le_refl _, rfl⟩, Young.nil, h.len, fun x hx => by simp at hx, h.hC, h.hM⟩, kt⟩
    obtain ⟨n1, n2, _⟩ := h.dvNe hg
    rcases e with e | e
    · exact n1 e
    · exact n2 e
  have HF := Hid.out hfin
  clear hfin F h kW hb hb1 c1
  go_enter Try.func65, Try.ntmps65
  go_wp2
  try rw [hW1]
  go_end0
  exact ⟨⟨_, rfl⟩, HF⟩
end Go.Proofs.Ytkkammbfomiofaa
