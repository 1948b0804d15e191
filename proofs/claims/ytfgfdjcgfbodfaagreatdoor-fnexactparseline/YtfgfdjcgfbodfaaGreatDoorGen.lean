/-
  What every seat wants: rows of one's own, and blocks that stay.
-/
import Derived.Test.YtfgfdjcgfbodfaaGreatDoorBig
import Derived.Test.YtfgfdjcgfbodfaaGreatDoorInts
import Derived.Laws.AppendOwn
namespace Go.Proofs.YtfgfdjcgfbodfaaGreatDoor
open Go.RowKit
set_option linter.unusedSimpArgs false
set_option linter.unusedVariables false

theorem gn_grown {w w' : World} {row : Option Nat} (h : w.grownBy w' row) : Kept (fun g => row = some g) w w' :=
  ⟨h.os, h.tape, h.output, h.size, fun j hj hg => h.block j hj (fun e => hg e.symm)⟩
theorem gn_tag {w : World} {B e sz n : Nat} {v : Value} {xs : List Value} (h : w.ownsRow B e sz v n xs) {g : Nat} (hg : v.ownBlock = some g) : ∃ cur, w.heap[g]? = some (.cells cur e (0, 0)) := by
  rcases h.2 with ⟨rfl, _⟩ | ⟨g', cap, cur, rfl, _, hh, _⟩
  · simp [Value.ownBlock] at hg
  · simp only [Value.ownBlock, Option.some.injEq] at hg
    subst hg
    exact ⟨cur, hh⟩
theorem gn_kept {w w' : World} {B : Nat} {v : Value} {e sz n : Nat} {vs : List Value} {G : Nat → Prop} (h : w.ownsRow B e sz v n vs) (hk : Kept G w w') (hG : ∀ g, v.ownBlock = some g → ¬ G g) : w'.ownsRow B e sz v n vs := by
  refine ⟨h.1, h.2.imp id ?_⟩
  rintro ⟨g, cap, cur, rfl, hg, hh, rest⟩
  exact ⟨g, cap, cur, rfl, hg, (hk.block g (Array.getElem?_eq_some_iff.1 hh).1 (hG g rfl)).trans hh, rest⟩
/-- A block of another type is not the row's own. -/
theorem gn_ne {W : World} {B e sz n g : Nat} {v : Value} {vs : List Value} {c : Array Value} {t : TypeId} {f : Nat × Nat} (h : W.ownsRow B e sz v n vs) (hg : W.heap[g]? = some (.cells c t f)) (ho : t ≠ e) : v.ownBlock ≠ some g := by
  intro e'
  obtain ⟨cur, hc⟩ := gn_tag h e'
  rw [hg] at hc
  injection hc with hc
  injection hc with _ hc
  exact ho hc
theorem gn_up {G G' : Nat → Prop} {w W W' : World} (h : Kept G w W) (k : Kept G' W W') (hG : ∀ g, G' g → w.heap.size ≤ g) : Kept G w W' :=
  ⟨k.1.trans h.1, k.2.trans h.2, k.3.trans h.3, Nat.le_trans h.size k.size, fun j hj hjG => (k.block j (Nat.lt_of_lt_of_le hj h.size) (fun e => by have := hG j e; omega)).trans (h.block j hj hjG)⟩
theorem gn_shape {w : World} {B e sz n : Nat} {v : Value} {xs : List Value} (h : w.ownsRow B e sz v n xs) : ∃ a c, v = .slice a n c := by
  rcases h.2 with ⟨rfl, h0⟩ | ⟨g, cap, cur, rfl, _⟩
  · exact ⟨none, 0, by rw [h0]⟩
  · exact ⟨_, _, rfl⟩
theorem gn_wanted {b : Bool} {p q : Prop} (hb : b = true) (h : p) : if b = true then p else q := by rw [if_pos hb]; exact h
theorem gn_set {W : World} {g i j : Nat} {v : Value} (h : g ≠ j) : (W.setCell ⟨g, i, none⟩ v).heap[j]? = W.heap[j]? := by simp [World.setCell, Array.getElem?_modify, h]
theorem gn_cap {w : World} {B e sz n : Nat} {a : Option Addr} {c : Nat} {vs : List Value} (h : w.ownsRow B e sz (.slice a n c) n vs) : n ≤ c ∧ c ≤ 9223372036854775807 := by
  rcases h.2 with ⟨e1, h0⟩ | ⟨g, cap, cur, e1, hB, hh, hcap, hm, hcs, htk⟩
  · injection e1 with e1 e2 e3
    omega
  · injection e1 with e1 e2 e3
    unfold maxLen at hm
    omega
theorem gn_base {w : World} {B B' : Nat} {t : TypeId} {sz : Nat} {v : Value} {n : Nat} {vs : List Value} (h : w.ownsRow B t sz v n vs) (hb : B' ≤ B) : w.ownsRow B' t sz v n vs :=
  ⟨h.1, h.2.imp id (fun ⟨g, cap, cur, e, hB, r⟩ => ⟨g, cap, cur, e, Nat.le_trans hb hB, r⟩)⟩
def i64G (xs : List Int) : List Value := xs.map (Value.int .i64)
theorem i64G_len (xs : List Int) : (i64G xs).length = xs.length := by simp [i64G]
theorem gn_row {w : World} {B n : Nat} {v : Value} {xs : List Int} (h : w.ownsRow B 2 1 v n (i64G xs)) : ∃ a c, v = .slice a n c ∧ Row .i64 (fun g => B ≤ g ∧ g < w.heap.size) w a n xs := by
  have hl : xs.length = n := by have := h.1; rw [i64G_len] at this; omega
  rcases h.2 with ⟨rfl, h0⟩ | ⟨g, cap, cur, rfl, hB, hg, hc, hm, hsz, ht⟩
  · exact ⟨none, 0, by rw [h0], hl, .inl h0⟩
  · refine ⟨_, cap, rfl, hl, .inr ⟨g, 0, rfl, ⟨hB, (Array.getElem?_eq_some_iff.1 hg).1⟩, fun i hi => ⟨?_, by simp [World.frozen?, hg]⟩⟩⟩
    rw [Nat.zero_add, cell_of_row w g i _ _ _ hg]
    have : (cur.toList.take (n * 1))[i]? = (i64G xs)[i]? := by rw [ht]
    rw [List.getElem?_take, if_pos (by omega), Array.getElem?_toList] at this
    rw [this]
    have hx : i < xs.length := by omega
    simp [i64G, List.getElem?_eq_getElem hx]
theorem gn_one (x : Int) : ∀ u ∈ [Value.int .i64 x], u.oneCell' = true := by intro u hu; simp at hu; subst hu; rfl
end Go.Proofs.YtfgfdjcgfbodfaaGreatDoor
