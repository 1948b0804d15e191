/-
  openDisk: the durable blocks.
-/
import Derived.Test.YtkkammbfomiofaaCho
import Derived.Test.YtkkammbfomiofaaCdw
import Derived.Test.YtkkammbfomiofaaValid
namespace Go.Proofs.Ytkkammbfomiofaa
open Go.RowKit Go.Shelf
set_option linter.unusedSimpArgs false
set_option linter.unusedVariables false

attribute [local go_sem] Oper.semAt_some

/-- Block x of the bytes. -/
def chk (xs : List Int) (x : Nat) : List Int := (xs.drop (64 * x)).take 64
theorem chk_len {xs : List Int} {nb x : Nat} (h : xs.length = nb * 64) (hx : x < nb) : (chk xs x).length = 64 := by
  simp only [chk, List.length_take, List.length_drop]
  omega
theorem chk_all_k (xs : List Int) (nb : Nat) (h : xs.length = nb * 64) : ∀ k, k ≤ nb → (fL nb k).flatMap (fun x => chk xs x.1) = xs.take (64 * k)
  | 0, _ => by simp [fL]
  | k + 1, hk => by
    rw [fL_succ (by omega), List.flatMap_append, chk_all_k xs nb h k (by omega)]
    simp only [List.flatMap_cons, List.flatMap_nil, List.append_nil, chk]
    rw [show 64 * (k + 1) = 64 * k + 64 by omega, List.take_add]
theorem chk_all (xs : List Int) (nb : Nat) (h : xs.length = nb * 64) : (List.finRange nb).flatMap (fun x => chk xs x.1) = xs := by
  rw [← fL_all, chk_all_k xs nb h nb (Nat.le_refl _), List.take_of_length_le (by omega)]

/-- Half-way: the blocks pre are laid. -/
structure OIs (w : World) (xs : List Int) (nb : Nat) (b off ca : Nat) (p : Option Addr) (m cp : Nat) (da : Option Addr) (dc : Nat) (pre : List (Fin nb)) (W : World) : Prop where
  c : W.heap[w.heap.size + 1 + 1]? = some (.cells #[.slice da pre.length dc, .slice none 0 0, .map (some (w.heap.size + 1))] 106 (0, 0))
  row : W.ownsRow w.heap.size 60 64 (.slice da pre.length dc) pre.length (u8s (pre.flatMap fun x => chk xs x.1))
  map : W.heap[w.heap.size + 1]? = some (.map #[] 0)
  o0 : W.heap[w.heap.size]? = some (.cells #[.slice (some ⟨b, off, none⟩) (nb * 64) ca, .slice p m cp] 33 (0, 0))
  o3 : W.heap[w.heap.size + 1 + 1 + 1]? = some (.cells #[.pointer (some ⟨w.heap.size + 1 + 1, 0, none⟩)] 77 (0, 0))
  o4 : W.heap[w.heap.size + 1 + 1 + 1 + 1]? = some (.cells #[.slice (some ⟨b, off, none⟩) (nb * 64) ca] 22 (0, 0))
  o5 : W.heap[w.heap.size + 1 + 1 + 1 + 1 + 1]? = some (.cells #[.int .i64 64] 3 (0, 0))
  below : Below w.heap.size w W

/-- What a round may touch. -/
def GO (N : Nat) (g : Nat) : Prop := N ≤ g ∧ g ≠ N + 1 + 1 + 1 + 1 ∧ g ≠ N + 1 + 1 + 1 + 1 + 1

section
variable {w W w2 : World} {xs : List Int} {nb b off ca : Nat} {p : Option Addr} {m cp : Nat} {da : Option Addr} {dc : Nat} {pre : List (Fin nb)}

theorem tag_ne {W : World} {B e sz n g : Nat} {v : Value} {vs : List Value} {o : Obj} (h : W.ownsRow B e sz v n vs) (hg : W.heap[g]? = some o) (ho : ∀ cur, o ≠ .cells cur e (0, 0)) : v.ownBlock ≠ some g := by
  intro e'
  obtain ⟨cur, hc⟩ := owns_tag h e'
  rw [hg] at hc
  injection hc with hc
  exact ho cur hc
theorem cells_ne {c c' : Array Value} {t t' : TypeId} {f f' : Nat × Nat} (h : t ≠ t') : Obj.cells c t f ≠ Obj.cells c' t' f' := by
  intro e; injection e with _ e; exact h e

theorem OIs.step (h : OIs w xs nb b off ca p m cp da dc pre W) (x : Fin nb) {o : Obj} {g' cap' : Nat}
    (hg2 : (W.drew.alloc o).grownBy w2 (Value.slice da pre.length dc).ownBlock) (hown2 : w2.ownsRow w.heap.size 60 64 (.slice (some ⟨g', 0, none⟩) (pre.length + 1) cap') (pre.length + 1) (u8s (pre.flatMap fun x => chk xs x.1) ++ u8s (chk xs x.1))) :
    w2.heap[w.heap.size + 1 + 1]? = some (.cells #[.slice da pre.length dc, .slice none 0 0, .map (some (w.heap.size + 1))] 106 (0, 0)) ∧
    OIs w xs nb b off ca p m cp (some ⟨g', 0, none⟩) cap' (pre ++ [x]) (w2.setCell ⟨w.heap.size + 1 + 1, 0, none⟩ (.slice (some ⟨g', 0, none⟩) (pre.length + 1) cap')) ∧
    KeepsFrom (w.heap.size + 1 + 1 + 1 + 1 + 1 + 1) W (w2.setCell ⟨w.heap.size + 1 + 1, 0, none⟩ (.slice (some ⟨g', 0, none⟩) (pre.length + 1) cap')) ∧
    Kept (GO w.heap.size) W (w2.setCell ⟨w.heap.size + 1 + 1, 0, none⟩ (.slice (some ⟨g', 0, none⟩) (pre.length + 1) cap')) := by
  have k12 : Kept (fun g => (Value.slice da pre.length dc).ownBlock = some g) W w2 := (Kept.of_below (((Below.refl _ W).drew).alloc (Nat.le_refl _) o) _).trans (grown_kept hg2)
  have ks := Kept.setCell w2 ⟨w.heap.size + 1 + 1, 0, none⟩ (.slice (some ⟨g', 0, none⟩) (pre.length + 1) cap') (fun g => g = w.heap.size + 1 + 1) rfl
  have kt : Kept (fun g => (Value.slice da pre.length dc).ownBlock = some g ∨ g = w.heap.size + 1 + 1) W (w2.setCell ⟨w.heap.size + 1 + 1, 0, none⟩ (.slice (some ⟨g', 0, none⟩) (pre.length + 1) cap')) := (k12.mono fun g hg => .inl hg).trans (ks.mono fun g hg => .inr hg)
  have nC := tag_ne h.row h.c (fun cur => cells_ne (by decide))
  have nM := tag_ne h.row h.map (fun cur => by simp)
  have n0 := tag_ne h.row h.o0 (fun cur => cells_ne (by decide))
  have n3 := tag_ne h.row h.o3 (fun cur => cells_ne (by decide))
  have n4 := tag_ne h.row h.o4 (fun cur => cells_ne (by decide))
  have n5 := tag_ne h.row h.o5 (fun cur => cells_ne (by decide))
  have lt : ∀ {g : Nat} {o : Obj}, W.heap[g]? = some o → g < W.heap.size := fun hh => (Array.getElem?_eq_some_iff.1 hh).1
  have gC : w2.heap[w.heap.size + 1 + 1]? = some (.cells #[.slice da pre.length dc, .slice none 0 0, .map (some (w.heap.size + 1))] 106 (0, 0)) := (k12.block _ (lt h.c) nC).trans h.c
  have keep : ∀ {g : Nat} {o : Obj}, W.heap[g]? = some o → (Value.slice da pre.length dc).ownBlock ≠ some g → g ≠ w.heap.size + 1 + 1 → (w2.setCell ⟨w.heap.size + 1 + 1, 0, none⟩ (.slice (some ⟨g', 0, none⟩) (pre.length + 1) cap')).heap[g]? = some o := fun hh h1 h2 => (kt.block _ (lt hh) (fun hx => hx.elim h1 h2)).trans hh
  have hl : (pre ++ [x]).length = pre.length + 1 := by simp
  have hBe : ∀ g, (Value.slice da pre.length dc).ownBlock = some g → w.heap.size ≤ g := fun g hg => (h.row.lt g hg).1
  refine ⟨gC, ⟨?_, ?_, keep h.map nM (by omega), keep h.o0 n0 (by omega), keep h.o3 n3 (by omega), keep h.o4 n4 (by omega), keep h.o5 n5 (by omega), ?_⟩, ⟨kt.size, ?_⟩, ?_⟩
  · rw [hl]
    simp [World.setCell, Array.getElem?_modify, gC]
  · rw [hl, List.flatMap_append]
    have e : u8s (pre.flatMap (fun x => chk xs x.1) ++ [x].flatMap fun x => chk xs x.1) = u8s (pre.flatMap fun x => chk xs x.1) ++ u8s (chk xs x.1) := by simp [u8s]
    rw [e]
    exact row_kept hown2 ks (fun g hg hh => by
      subst hh
      obtain ⟨cur, hc⟩ := owns_tag hown2 hg
      rw [gC] at hc
      injection hc with hc
      exact absurd hc (cells_ne (by decide)))
  · exact h.below.trans (kt.below (Nat.le_of_lt (lt h.o0)) (fun g hg => by
      rcases hg with hg | rfl
      · exact hBe g hg
      · omega))
  · intro k o' hk hh ho
    refine keep hh (fun e => ?_) (by omega)
    obtain ⟨cur, hc⟩ := owns_tag h.row e
    rw [hh] at hc
    injection hc with hc
    subst hc
    simp [Obj.isCells] at ho
  · refine kt.mono (fun g hg => ?_)
    rcases hg with hg | rfl
    · exact ⟨hBe g hg, fun e => n4 (e ▸ hg), fun e => n5 (e ▸ hg)⟩
    · exact ⟨by omega, by omega, by omega⟩

theorem OIs.own : OwnFrom (w.heap.size + 1 + 1 + 1 + 1 + 1 + 1) (fun (pre : List (Fin nb)) W => ∃ da dc, OIs w xs nb b off ca p m cp da dc pre W) := by
  rintro pre W W' row ⟨da, dc, h⟩ hg hr
  have keep : ∀ {g : Nat} {o : Obj}, W.heap[g]? = some o → (g < w.heap.size + 1 + 1 + 1 + 1 + 1 + 1 ∨ o.isCells = true) → W'.heap[g]? = some o := fun {g o} hh hc => by
    refine (hg.block g (Array.getElem?_eq_some_iff.1 hh).1 (fun e => ?_)).trans hh
    obtain ⟨h1, o', ho', hi⟩ := hr g e.symm
    rcases hc with hc | hc
    · omega
    · rw [hh] at ho'; injection ho' with ho'; subst ho'; rw [hc] at hi; cases hi
  refine ⟨da, dc, ⟨keep h.c (.inl (by omega)), ?_, keep h.map (.inl (by omega)), keep h.o0 (.inl (by omega)), keep h.o3 (.inl (by omega)), keep h.o4 (.inl (by omega)), keep h.o5 (.inl (by omega)), ?_⟩⟩
  · refine ⟨h.row.1, h.row.2.imp id ?_⟩
    rintro ⟨g, cap, cur, e, h1, h2, h3⟩
    exact ⟨g, cap, cur, e, h1, keep h2 (.inr rfl), h3⟩
  · refine h.below.trans ⟨hg.os, hg.tape, hg.output, hg.size, fun j hj => hg.block j (Nat.lt_of_lt_of_le hj h.below.size) (fun e => ?_)⟩
    have := (hr j e.symm).1
    omega
end
end Go.Proofs.Ytkkammbfomiofaa
