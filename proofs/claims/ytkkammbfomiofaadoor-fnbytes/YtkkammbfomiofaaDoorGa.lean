/-
  Bytes, Fill, Mark, Ints, Big.
-/
import Derived.Test.YtkkammbfomiofaaDoorProg
import Derived.WalkKit
import Derived.WalkSpells
import Derived.WalkLawsBesides
import Derived.Deep.QuietTactic
import Derived.BigQuiet
import Derived.WalkSmall
/-
  Rows of numbers in memory, and the law package's functions over lists of bytes: eqByteS, markByteS, heldByteS, toByteS, szByteS.
-/
namespace Go.Proofs.YtkkammbfomiofaaDoor
open Go.RowKit

theorem ret_boolB {a b : Bool} (h : a = b) : Ending.returned (.bool a) = .returned (.bool b) := by rw [h]
theorem ret_int {k : IntKind} {a b : Int} (h : a = b) : Ending.returned (.int k a) = .returned (.int k b) := by rw [h]

/-- At a lie n numbers of kind k: xs. -/
def IRow (k : IntKind) (w : World) (a : Option Addr) (n : Nat) (xs : List Int) : Prop :=
  xs.length = n ∧ (n = 0 ∨ ∃ g off, a = some ⟨g, off, none⟩ ∧ ∀ i, i < n → w.cell? ⟨g, off + i, none⟩ = some (.int k (xs[i]?.getD 0)))

theorem IRow.below {k : IntKind} {w w' : World} {a : Option Addr} {n : Nat} {xs : List Int} (h : IRow k w a n xs) (hb : Below w.heap.size w w') : IRow k w' a n xs := by
  refine ⟨h.1, ?_⟩
  rcases h.2 with h0 | ⟨g, off, rfl, hc⟩
  · exact .inl h0
  · by_cases hn : n = 0
    · exact .inl hn
    · refine .inr ⟨g, off, rfl, fun i hi => ?_⟩
      rw [hb.cell (World.block_lt_of_cell? w _ (hc i hi))]; exact hc i hi

theorem getD_eq (xs : List Int) (i : Nat) (h : i < xs.length) : xs[i]?.getD 0 = xs[i] := by simp [h]

theorem take_eq_succ {xs ys : List Int} {k : Nat} (h : k < xs.length) (h' : k < ys.length) (e : xs.take k = ys.take k) (e' : xs[k]?.getD 0 = ys[k]?.getD 0) : xs.take (k + 1) = ys.take (k + 1) := by
  rw [getD_eq _ _ h, getD_eq _ _ h'] at e'
  rw [List.take_succ_eq_append_getElem h, List.take_succ_eq_append_getElem h', e, e']

end Go.Proofs.YtkkammbfomiofaaDoor

/-
  Owned rows, what stays of a world, and the functions that write: toByteS, markByteS; heldByteS, szByteS.
-/
namespace Go.Proofs.YtkkammbfomiofaaDoor
open Go.RowKit

/-- The blocks that are there stay as they are, but for those of G. -/
structure Kept (G : Nat → Prop) (w w' : World) : Prop where
  os : w'.os = w.os
  tape : w'.tape = w.tape
  output : w'.output = w.output
  size : w.heap.size ≤ w'.heap.size
  block : ∀ j, j < w.heap.size → ¬ G j → w'.heap[j]? = w.heap[j]?

theorem Kept.refl (G : Nat → Prop) (w : World) : Kept G w w := ⟨rfl, rfl, rfl, Nat.le_refl _, fun _ _ _ => rfl⟩
theorem Kept.trans {G : Nat → Prop} {a b c : World} (h : Kept G a b) (k : Kept G b c) : Kept G a c :=
  ⟨k.os.trans h.os, k.tape.trans h.tape, k.output.trans h.output, Nat.le_trans h.size k.size, fun j hj hg => (k.block j (Nat.lt_of_lt_of_le hj h.size) hg).trans (h.block j hj hg)⟩
theorem Kept.mono {G G' : Nat → Prop} {w w' : World} (h : Kept G w w') (hG : ∀ j, G j → G' j) : Kept G' w w' :=
  ⟨h.os, h.tape, h.output, h.size, fun j hj hg => h.block j hj (fun x => hg (hG j x))⟩
theorem Kept.below {G : Nat → Prop} {w w' : World} {B : Nat} (h : Kept G w w') (hB : B ≤ w.heap.size) (hG : ∀ j, G j → B ≤ j) : Below B w w' :=
  ⟨h.os, h.tape, h.output, h.size, fun j hj => h.block j (by omega) (fun x => by have := hG j x; omega)⟩
theorem Kept.of_below {w w' : World} (h : Below w.heap.size w w') (G : Nat → Prop) : Kept G w w' :=
  ⟨h.os, h.tape, h.output, h.size, fun j hj _ => h.block j hj⟩
theorem Kept.setCell (w : World) (p : Addr) (u : Value) (G : Nat → Prop) (hp : G p.block) : Kept G w (w.setCell p u) :=
  ⟨rfl, rfl, rfl, by simp [World.setCell], fun j _ hg => Below.heap_setCell _ _ _ _ (fun e => hg (e ▸ hp))⟩
theorem Kept.drewN (w : World) (d : Nat) (G : Nat → Prop) : Kept G w (w.drewN d) := ⟨rfl, rfl, rfl, Nat.le_refl _, fun _ _ _ => rfl⟩
theorem Kept.drew (w : World) (G : Nat → Prop) : Kept G w w.drew := ⟨rfl, rfl, rfl, Nat.le_refl _, fun _ _ _ => rfl⟩

/-- At a lie n numbers of kind k in a block of G; they may be written. -/
def Row (k : IntKind) (G : Nat → Prop) (w : World) (a : Option Addr) (n : Nat) (xs : List Int) : Prop :=
  xs.length = n ∧ (n = 0 ∨ ∃ g off, a = some ⟨g, off, none⟩ ∧ G g ∧ ∀ i, i < n → w.cell? ⟨g, off + i, none⟩ = some (.int k (xs[i]?.getD 0)) ∧ w.frozen? ⟨g, off + i, none⟩ = false)

theorem Row.read {k : IntKind} {G : Nat → Prop} {w : World} {a : Option Addr} {n : Nat} {xs : List Int} (h : Row k G w a n xs) : IRow k w a n xs :=
  ⟨h.1, h.2.imp id fun ⟨g, off, e, _, hc⟩ => ⟨g, off, e, fun i hi => (hc i hi).1⟩⟩
theorem Row.mono {k : IntKind} {G G' : Nat → Prop} {w : World} {a : Option Addr} {n : Nat} {xs : List Int} (h : Row k G w a n xs) (hG : ∀ j, G j → G' j) : Row k G' w a n xs :=
  ⟨h.1, h.2.imp id fun ⟨g, off, e, hg, hc⟩ => ⟨g, off, e, hG g hg, hc⟩⟩
theorem Row.kept {k : IntKind} {G G' : Nat → Prop} {w w' : World} {a : Option Addr} {n : Nat} {xs : List Int} (h : Row k G w a n xs) (hk : Kept G' w w') (hd : ∀ j, G j → ¬ G' j) : Row k G w' a n xs := by
  refine ⟨h.1, ?_⟩
  by_cases hn : n = 0
  · exact .inl hn
  rcases h.2 with h0 | ⟨g, off, e, hg, hc⟩
  · exact .inl h0
  · refine .inr ⟨g, off, e, hg, fun i hi => ?_⟩
    have hl := World.block_lt_of_cell? w _ (hc i hi).1
    have hb := hk.block g hl (hd g hg)
    exact ⟨(World.cell?_of_block (a := ⟨g, off + i, none⟩) hb).trans (hc i hi).1, (World.frozen?_of_block (a := ⟨g, off + i, none⟩) hb).trans (hc i hi).2⟩
theorem Row.below {k : IntKind} {G : Nat → Prop} {w w' : World} {a : Option Addr} {n : Nat} {xs : List Int} (h : Row k G w a n xs) (hb : Below w.heap.size w w') : Row k G w' a n xs :=
  h.kept (Kept.of_below hb fun _ => False) fun _ _ => id

/-- n cells from off on in block g: they hold f. -/
def Cells (k : IntKind) (w : World) (g off n : Nat) (f : Nat → Int) : Prop :=
  ∀ i, i < n → w.cell? ⟨g, off + i, none⟩ = some (.int k (f i)) ∧ w.frozen? ⟨g, off + i, none⟩ = false

theorem Cells.set {k : IntKind} {w : World} {g off n : Nat} {f : Nat → Int} (h : Cells k w g off n f) (j : Nat) (hj : j < n) (x : Int) (f' : Nat → Int) (hf : ∀ i, i < n → f' i = if i = j then x else f i) :
    Cells k (w.setCell ⟨g, off + j, none⟩ (.int k x)) g off n f' := by
  intro i hi
  refine ⟨?_, by rw [World.frozen?_setCell]; exact (h i hi).2⟩
  rw [hf i hi]
  by_cases e : i = j
  · subst e; rw [if_pos rfl]; exact World.cell?_setCell_same _ _ _ (h i hi).1
  · rw [if_neg e, World.cell?_setCell_other _ _ _ _ (by intro e'; injection e' with e1 e2 e3; omega)]; exact (h i hi).1

theorem Cells.drew {k : IntKind} {w : World} {g off n : Nat} {f : Nat → Int} (h : Cells k w g off n f) : Cells k w.drew g off n f := h

theorem Cells.row {k : IntKind} {G : Nat → Prop} {w : World} {g off n : Nat} {f : Nat → Int} {xs : List Int} (h : Cells k w g off n f) (hg : G g) (hl : xs.length = n) (hf : ∀ i, i < n → xs[i]?.getD 0 = f i) : Row k G w (some ⟨g, off, none⟩) n xs :=
  ⟨hl, .inr ⟨g, off, rfl, hg, fun i hi => by rw [hf i hi]; exact h i hi⟩⟩

theorem info5 : (Tryd.prog.info? 5).map (fun i => (i.zero, i.size, i.bytes)) = some (some (.int .u8 0), 1, 1) := by kernel_rfl

theorem Below.of_grown {w w' : World} (h : w.grownBy w' none) : Below w.heap.size w w' := ⟨h.os, h.tape, h.output, h.size, fun j hj => h.block j hj (by simp)⟩

theorem step_if (k i : Nat) (xs : List Int) : (if i < k + 1 then xs[i]?.getD 0 else 0) = if i = k then xs[k]?.getD 0 else if i < k then xs[i]?.getD 0 else 0 := by
  by_cases e : i = k
  · subst e; simp
  · rw [if_neg e]; by_cases h : i < k
    · rw [if_pos h, if_pos (by omega)]
    · rw [if_neg h, if_neg (by omega)]

/-- What make([]T, n) leaves. -/
theorem made_cells {k : IntKind} {w1 : World} {B g n e : Nat} (h : w1.ownsRow B e 1 (.slice (some ⟨g, 0, none⟩) n n) n (madeCells #[.int k 0] n).toList) : Cells k w1 g 0 n (fun _ => 0) := by
  intro i hi
  refine ⟨?_, by rw [Nat.zero_add]; exact h.frozenAt i⟩
  rw [Nat.zero_add, h.cellAt i (by omega), toList_madeCells_one]
  simp [hi]

theorem made_size {w1 : World} {B g n e sz : Nat} {xs : List Value} (h : w1.ownsRow B e sz (.slice (some ⟨g, 0, none⟩) n n) n xs) : g < w1.heap.size := (h.lt g rfl).2

end Go.Proofs.YtkkammbfomiofaaDoor

/-
  markByteS and heldByteS.
-/
namespace Go.Proofs.YtkkammbfomiofaaDoor
open Go.RowKit

/-- The marks of n bytes from k on. -/
def marks (k : Int) (n : Nat) : List Int := (List.range n).map fun i : Nat => (k + (i : Int)) % 256
theorem marks_len (k : Int) (n : Nat) : (marks k n).length = n := by simp [marks]
theorem marks_at (k : Int) (n i : Nat) (h : i < n) : (marks k n)[i]?.getD 0 = (k + (i : Int)) % 256 := by simp [marks, h]

theorem step_mark (k : Int) (xs : List Int) (j i : Nat) :
    (if i < j + 1 then (k + (i : Int)) % 256 else xs[i]?.getD 0) = if i = j then (k + (j : Int)) % 256 else if i < j then (k + (i : Int)) % 256 else xs[i]?.getD 0 := by
  by_cases e : i = j
  · subst e; simp
  · rw [if_neg e]; by_cases h : i < j
    · rw [if_pos h, if_pos (by omega)]
    · rw [if_neg h, if_neg (by omega)]

end Go.Proofs.YtkkammbfomiofaaDoor

/-
  Lists of int64: szInt64S, toInt64S, eqInt64S, markInt64S.
-/
namespace Go.Proofs.YtkkammbfomiofaaDoor
open Go.RowKit
set_option linter.unusedSimpArgs false
set_option linter.unusedVariables false

theorem info2 : (Tryd.prog.info? 2).map (fun i => (i.zero, i.size, i.bytes)) = some (some (.int .i64 0), 1, 8) := by kernel_rfl
def markI (k : Int) (n : Nat) : List Int := (List.range n).map fun i : Nat => k + (i : Int)
theorem markI_len (k : Int) (n : Nat) : (markI k n).length = n := by simp [markI]
theorem markI_at (k : Int) (n i : Nat) (h : i < n) : (markI k n)[i]?.getD 0 = k + (i : Int) := by simp [markI, h]
theorem step_markI (k : Int) (xs : List Int) (j i : Nat) :
    (if i < j + 1 then (k + (i : Int)) else xs[i]?.getD 0) = if i = j then (k + (j : Int)) else if i < j then (k + (i : Int)) else xs[i]?.getD 0 := by
  by_cases e : i = j
  · subst e; simp
  · rw [if_neg e]; by_cases h : i < j
    · rw [if_pos h, if_pos (by omega)]
    · rw [if_neg h, if_neg (by omega)]

end Go.Proofs.YtkkammbfomiofaaDoor

/-
  Numbers as bytes: l2Big.
-/
namespace Go.Proofs.YtkkammbfomiofaaDoor
open Go.RowKit
set_option linter.unusedSimpArgs false
set_option linter.unusedVariables false

/-- v as n bytes, the highest first. -/
def beB (v : Int) : Nat → List Int
  | 0 => []
  | n + 1 => beB (v / 256) n ++ [v % 256]
theorem beB_len (n : Nat) : ∀ v : Int, (beB v n).length = n := by
  induction n with
  | zero => intro v; rfl
  | succ n ih => intro v; simp [beB, ih]

/-- Bytes as cells. -/
def u8s (xs : List Int) : List Value := xs.map (Value.int .u8)
theorem u8s_append (xs ys : List Int) : u8s (xs ++ ys) = u8s xs ++ u8s ys := by simp [u8s]
theorem u8s_len (xs : List Int) : (u8s xs).length = xs.length := by simp [u8s]

/-- What is owned by the append laws, as a row of ours. -/
theorem owns_row {w : World} {B n : Nat} {v : Value} {xs : List Int} (h : w.ownsRow B 5 1 v n (u8s xs)) : ∃ a c, v = .slice a n c ∧ Row .u8 (fun g => B ≤ g ∧ g < w.heap.size) w a n xs := by
  have hl : xs.length = n := by have := h.1; rw [u8s_len] at this; omega
  rcases h.2 with ⟨rfl, h0⟩ | ⟨g, cap, cur, rfl, hB, hg, hc, hm, hsz, ht⟩
  · exact ⟨none, 0, by rw [h0], hl, .inl h0⟩
  · refine ⟨some ⟨g, 0, none⟩, cap, rfl, hl, ?_⟩
    by_cases h0 : n = 0
    · exact .inl h0
    · refine .inr ⟨g, 0, rfl, ⟨hB, (Array.getElem?_eq_some_iff.1 hg).1⟩, fun i hi => ?_⟩
      rw [Nat.zero_add]
      refine ⟨?_, h.frozenAt i⟩
      rw [h.cellAt i (by omega)]
      simp [u8s, List.getElem?_eq_getElem (show i < xs.length by omega)]

theorem owns_some {w : World} {B n : Nat} {v : Value} {xs : List Value} (h : w.ownsRow B 5 1 v n xs) (hn : 0 < n) : ∃ g c, v = .slice (some ⟨g, 0, none⟩) n c ∧ (∀ j u, xs[j]? = some u → w.cell? ((⟨g, 0, none⟩ : Addr).add j) = some u) ∧ g < w.heap.size := by
  have h' := h
  rcases h.2 with ⟨rfl, h0⟩ | ⟨g, cap, cur, rfl, hB, hg, hc, hm, hsz, ht⟩
  · omega
  · exact ⟨g, cap, rfl, h'.cells rfl, (Array.getElem?_eq_some_iff.1 hg).1⟩

theorem one_cell {w : World} {x : Value} {t : TypeId} : ∀ j u, [x][j]? = some u → (w.alloc (.cells #[x] t)).cell? ((⟨w.heap.size, 0, none⟩ : Addr).add j) = some u := by
  intro j u hj
  match j, hj with
  | 0, hj => simp at hj; subst hj; simp [Addr.add]
theorem one_u8 (x : Int) : ∀ u ∈ [Value.int .u8 x], u.oneCell' = true := by intro u hu; simp at hu; subst hu; rfl
theorem many_u8 (xs : List Int) : ∀ u ∈ u8s xs, u.oneCell' = true := by intro u hu; simp [u8s] at hu; obtain ⟨a, _, rfl⟩ := hu; rfl

theorem empty_owned (w : World) : (w.alloc (.cells #[] 5)).ownsRow w.heap.size 5 1 (.slice (some ⟨w.heap.size, 0, none⟩) 0 0) 0 [] :=
  World.ownsRow_made w #[] 0 (Nat.le_refl _) (Nat.zero_le _) rfl

set_option maxHeartbeats 1000000 in
set_option maxRecDepth 100000 in
theorem l2Big_any (n : Nat) : ∀ (v : Int) (w : World), 0 ≤ v → v ≤ 4611686018427387904 → n ≤ 64 →
    Calls Tryd.prog 22 #[.int .i64 v, .int .i64 n] w fun e w' => ∃ s, e = .returned s ∧ w'.ownsRow w.heap.size 5 1 s n (u8s (beB v n)) ∧ Below w.heap.size w w' := by
  induction n with
  | zero =>
    intro v w h0 h1 _
    have ht : ((0 : Int) == 0) = true := rfl
    go_enter Tryd.func22, Tryd.ntmps22
    go_wp2
    go_ret
    exact ⟨_, rfl, empty_owned w, (Below.refl _ _).alloc (Nat.le_refl _) _⟩
  | succ n ih =>
    intro v w h0 h1 hn
    have IH : Hid (∀ (w : World), 0 ≤ v / 256 → v / 256 ≤ 4611686018427387904 → n ≤ 64 → Calls Tryd.prog 22 #[.int .i64 (v / 256), .int .i64 n] w fun e w' => ∃ s, e = .returned s ∧ w'.ownsRow w.heap.size 5 1 s n (u8s (beB (v / 256) n)) ∧ Below w.heap.size w w') := ih (v / 256)
    have ht : (((n + 1 : Nat) : Int) == 0) = false := by simp; omega
    obtain ⟨i0, hi, hz0, hz1, hz2⟩ := info_parts info5
    clear ih
    go_enter Tryd.func22, Tryd.ntmps22
    go_wp2_with fail
    try rw [show ((n : Int) + 1 - 1) = (n : Int) from by omega]
    refine (IH.out _ (by omega) (by omega) (by omega)).mono ?_
    rintro e w1 ⟨s, rfl, hown, hb⟩
    have hsz := hb.size
    clear IH
    go_wp2_with (at_builtin; refine wpList_append_own _ rfl _ _ 22 rfl w.heap.size 5 i0 (.int .u8 0) 1 1 Tryd.underlying22 hi hz0 hz1 hz2 rfl (by decide) s n _ rfl (hown.alloc _) ⟨w1.heap.size, 0, none⟩ 1 1 [.int .u8 (v % 256)] rfl rfl one_cell (one_u8 _) ?c3 ?c4 ?c5 ?_)
    case c3 => unfold maxLen; omega
    case c4 => omega
    case c5 => simp; omega
    intro s' w2 hown' hgrow _
    have hbel : Below w.heap.size w w2 := (hb.alloc hsz _).grown hgrow (by simp; omega) (fun k hk => (hown.lt k hk).1)
    have hfin : w2.ownsRow w.heap.size 5 1 s' (n + 1) (u8s (beB v (n + 1))) := by
      rw [beB, u8s_append]; exact hown'
    clear hown' hown hgrow hb
    go_wp2
    go_ret
    exact ⟨_, rfl, hfin, hbel⟩
end Go.Proofs.YtkkammbfomiofaaDoor
