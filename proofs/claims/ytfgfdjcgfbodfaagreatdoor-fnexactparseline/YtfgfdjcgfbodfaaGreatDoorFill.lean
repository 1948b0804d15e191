/-
  Owned rows, what stays of a world, and the functions that write: toByteS, markByteS; heldByteS, szByteS.
-/
import Derived.Test.YtfgfdjcgfbodfaaGreatDoorBytes
namespace Go.Proofs.YtfgfdjcgfbodfaaGreatDoor
open Go.RowKit

/-- The blocks that are there stay as they are, but for those of G. -/
structure Kept (G : Nat → Prop) (w w' : World) : Prop where
  os : w'.os = w.os
  tape : w'.tape = w.tape
  output : w'.output = w.output
  size : w.heap.size ≤ w'.heap.size
  block : ∀ j, j < w.heap.size → ¬ G j → w'.heap[j]? = w.heap[j]?

theorem Kept.refl (G : Nat → Prop) (w : World) : Kept G w w := ⟨rfl, rfl, rfl, Nat.le_refl _, fun _ _ _ => rfl⟩
theorem Kept.trans {G : Nat → Prop} {a b c : World} (h : Kept G a b) (k : Kept G b c) : Kept G a c :=
  ⟨k.os.trans h.os, k.tape.trans h.tape, k.output.trans h.output, Nat.le_trans h.size k.size, fun j hj hg => (k.block j (Nat.lt_of_lt_of_le hj h.size) hg).trans (h.block j hj hg)⟩
theorem Kept.mono {G G' : Nat → Prop} {w w' : World} (h : Kept G w w') (hG : ∀ j, G j → G' j) : Kept G' w w' :=
  ⟨h.os, h.tape, h.output, h.size, fun j hj hg => h.block j hj (fun x => hg (hG j x))⟩
theorem Kept.below {G : Nat → Prop} {w w' : World} {B : Nat} (h : Kept G w w') (hB : B ≤ w.heap.size) (hG : ∀ j, G j → B ≤ j) : Below B w w' :=
  ⟨h.os, h.tape, h.output, h.size, fun j hj => h.block j (by omega) (fun x => by have := hG j x; omega)⟩
theorem Kept.of_below {w w' : World} (h : Below w.heap.size w w') (G : Nat → Prop) : Kept G w w' :=
  ⟨h.os, h.tape, h.output, h.size, fun j hj _ => h.block j hj⟩
theorem Kept.setCell (w : World) (p : Addr) (u : Value) (G : Nat → Prop) (hp : G p.block) : Kept G w (w.setCell p u) :=
  ⟨rfl, rfl, rfl, by simp [World.setCell], fun j _ hg => Below.heap_setCell _ _ _ _ (fun e => hg (e ▸ hp))⟩
theorem Kept.drewN (w : World) (d : Nat) (G : Nat → Prop) : Kept G w (w.drewN d) := ⟨rfl, rfl, rfl, Nat.le_refl _, fun _ _ _ => rfl⟩
theorem Kept.drew (w : World) (G : Nat → Prop) : Kept G w w.drew := ⟨rfl, rfl, rfl, Nat.le_refl _, fun _ _ _ => rfl⟩

/-- At a lie n numbers of kind k in a block of G; they may be written. -/
def Row (k : IntKind) (G : Nat → Prop) (w : World) (a : Option Addr) (n : Nat) (xs : List Int) : Prop :=
  xs.length = n ∧ (n = 0 ∨ ∃ g off, a = some ⟨g, off, none⟩ ∧ G g ∧ ∀ i, i < n → w.cell? ⟨g, off + i, none⟩ = some (.int k (xs[i]?.getD 0)) ∧ w.frozen? ⟨g, off + i, none⟩ = false)

theorem Row.read {k : IntKind} {G : Nat → Prop} {w : World} {a : Option Addr} {n : Nat} {xs : List Int} (h : Row k G w a n xs) : IRow k w a n xs :=
  ⟨h.1, h.2.imp id fun ⟨g, off, e, _, hc⟩ => ⟨g, off, e, fun i hi => (hc i hi).1⟩⟩
theorem Row.mono {k : IntKind} {G G' : Nat → Prop} {w : World} {a : Option Addr} {n : Nat} {xs : List Int} (h : Row k G w a n xs) (hG : ∀ j, G j → G' j) : Row k G' w a n xs :=
  ⟨h.1, h.2.imp id fun ⟨g, off, e, hg, hc⟩ => ⟨g, off, e, hG g hg, hc⟩⟩
theorem Row.kept {k : IntKind} {G G' : Nat → Prop} {w w' : World} {a : Option Addr} {n : Nat} {xs : List Int} (h : Row k G w a n xs) (hk : Kept G' w w') (hd : ∀ j, G j → ¬ G' j) : Row k G w' a n xs := by
  refine ⟨h.1, ?_⟩
  by_cases hn : n = 0
  · exact .inl hn
  rcases h.2 with h0 | ⟨g, off, e, hg, hc⟩
  · exact .inl h0
  · refine .inr ⟨g, off, e, hg, fun i hi => ?_⟩
    have hl := World.block_lt_of_cell? w _ (hc i hi).1
    have hb := hk.block g hl (hd g hg)
    exact ⟨(World.cell?_of_block (a := ⟨g, off + i, none⟩) hb).trans (hc i hi).1, (World.frozen?_of_block (a := ⟨g, off + i, none⟩) hb).trans (hc i hi).2⟩
theorem Row.below {k : IntKind} {G : Nat → Prop} {w w' : World} {a : Option Addr} {n : Nat} {xs : List Int} (h : Row k G w a n xs) (hb : Below w.heap.size w w') : Row k G w' a n xs :=
  h.kept (Kept.of_below hb fun _ => False) fun _ _ => id

/-- n cells from off on in block g: they hold f. -/
def Cells (k : IntKind) (w : World) (g off n : Nat) (f : Nat → Int) : Prop :=
  ∀ i, i < n → w.cell? ⟨g, off + i, none⟩ = some (.int k (f i)) ∧ w.frozen? ⟨g, off + i, none⟩ = false

theorem Cells.set {k : IntKind} {w : World} {g off n : Nat} {f : Nat → Int} (h : Cells k w g off n f) (j : Nat) (hj : j < n) (x : Int) (f' : Nat → Int) (hf : ∀ i, i < n → f' i = if i = j then x else f i) :
    Cells k (w.setCell ⟨g, off + j, none⟩ (.int k x)) g off n f' := by
  intro i hi
  refine ⟨?_, by rw [World.frozen?_setCell]; exact (h i hi).2⟩
  rw [hf i hi]
  by_cases e : i = j
  · subst e; rw [if_pos rfl]; exact World.cell?_setCell_same _ _ _ (h i hi).1
  · rw [if_neg e, World.cell?_setCell_other _ _ _ _ (by intro e'; injection e' with e1 e2 e3; omega)]; exact (h i hi).1

theorem Cells.drew {k : IntKind} {w : World} {g off n : Nat} {f : Nat → Int} (h : Cells k w g off n f) : Cells k w.drew g off n f := h

theorem Cells.row {k : IntKind} {G : Nat → Prop} {w : World} {g off n : Nat} {f : Nat → Int} {xs : List Int} (h : Cells k w g off n f) (hg : G g) (hl : xs.length = n) (hf : ∀ i, i < n → xs[i]?.getD 0 = f i) : Row k G w (some ⟨g, off, none⟩) n xs :=
  ⟨hl, .inr ⟨g, off, rfl, hg, fun i hi => by rw [hf i hi]; exact h i hi⟩⟩

theorem info5 : (Tryz.prog.info? 5).map (fun i => (i.zero, i.size, i.bytes)) = some (some (.int .u8 0), 1, 1) := by kernel_rfl

theorem Below.of_grown {w w' : World} (h : w.grownBy w' none) : Below w.heap.size w w' := ⟨h.os, h.tape, h.output, h.size, fun j hj => h.block j hj (by simp)⟩

theorem step_if (k i : Nat) (xs : List Int) : (if i < k + 1 then xs[i]?.getD 0 else 0) = if i = k then xs[k]?.getD 0 else if i < k then xs[i]?.getD 0 else 0 := by
  by_cases e : i = k
  · subst e; simp
  · rw [if_neg e]; by_cases h : i < k
    · rw [if_pos h, if_pos (by omega)]
    · rw [if_neg h, if_neg (by omega)]

/-- What make([]T, n) leaves. -/
theorem made_cells {k : IntKind} {w1 : World} {B g n e : Nat} (h : w1.ownsRow B e 1 (.slice (some ⟨g, 0, none⟩) n n) n (madeCells #[.int k 0] n).toList) : Cells k w1 g 0 n (fun _ => 0) := by
  intro i hi
  refine ⟨?_, by rw [Nat.zero_add]; exact h.frozenAt i⟩
  rw [Nat.zero_add, h.cellAt i (by omega), toList_madeCells_one]
  simp [hi]

theorem made_size {w1 : World} {B g n e sz : Nat} {xs : List Value} (h : w1.ownsRow B e sz (.slice (some ⟨g, 0, none⟩) n n) n xs) : g < w1.heap.size := (h.lt g rfl).2

set_option maxHeartbeats 1000000 in
theorem toByteS_any (a : Option Addr) (n ca : Nat) (xs : List Int) (w : World) (ha : IRow .u8 w a n xs) (hn : n ≤ 2097152) :
    Calls Tryz.prog 5 #[.slice a n ca] w fun e w' => e = .returned (.slice (some ⟨w.heap.size, 0, none⟩) n n) ∧ Row .u8 (fun g => g = w.heap.size) w' (some ⟨w.heap.size, 0, none⟩) n xs ∧ Below w.heap.size w w' ∧ w.heap.size < w'.heap.size := by
  obtain ⟨i0, hi, hz0, hz1, hz2⟩ := info_parts info5
  obtain ⟨hx, ha⟩ := ha
  rcases ha with h0 | ⟨g, off, rfl, hc⟩
  · subst h0
    go_enter Tryz.func5, Tryz.ntmps5
    go_wp2_with (at_make; refine wpList_make_full _ rfl _ _ 22 rfl w.heap.size 5 i0 (.int .u8 0) 1 Tryz.underlying22 hi hz0 hz1 .i64 .i64 _ _ 0 rfl rfl rfl rfl ?c1 ?c2 ?c3 ?_)
    case c1 => rw [hz2]; omega
    case c2 => unfold maxLen; omega
    case c3 => exact Nat.le_refl _
    intro w1 hown hgrow
    have hsz := made_size hown
    have hbel := Below.of_grown hgrow
    clear hown hgrow
    go_wp2
    refine wp_loop_rounds 1 ?_
    rw [rounds_succ]
    go_wp2
    go_ret
    exact ⟨rfl, ⟨hx, .inl rfl⟩, hbel, hsz⟩
  · have HX : Hid (xs.length = n) := hx
    clear hx
    go_enter Tryz.func5, Tryz.ntmps5
    go_wp2_with (at_make; refine wpList_make_full _ rfl _ _ 22 rfl w.heap.size 5 i0 (.int .u8 0) 1 Tryz.underlying22 hi hz0 hz1 .i64 .i64 _ _ n rfl rfl rfl rfl ?c1 ?c2 ?c3 ?_)
    case c1 => rw [hz2]; omega
    case c2 => unfold maxLen; omega
    case c3 => exact Nat.le_refl _
    intro w1 hown hgrow
    have hsz := made_size hown
    have hcs := made_cells hown
    have hbel := Below.of_grown hgrow
    clear hown hgrow hi hz0 hz1 hz2
    go_wp2
    go_loopw [4] (fun i wr => ∃ k : Nat, k ≤ n ∧ i = .int .i64 k ∧ Cells .u8 wr w.heap.size 0 n (fun j => if j < k then xs[j]?.getD 0 else 0) ∧ Below w.heap.size w wr ∧ w.heap.size < wr.heap.size) (fun i _ => n - (intOf i).toNat)
    case atStart => exact ⟨0, Nat.zero_le _, rfl, by simpa using hcs, hbel, hsz⟩
    case round =>
      obtain ⟨k, hk, rfl, hf, hbel, hsz⟩ := hrel
      by_cases hlt : k < n
      · have c1 : wr.cell? ⟨g, off + k, none⟩ = some (.int .u8 (xs[k]?.getD 0)) := (hbel.cell (World.block_lt_of_cell? w _ (hc k hlt))).trans (hc k hlt)
        have c2 := (hf k hlt).1
        have c3 := (hf k hlt).2
        rw [Nat.zero_add] at c2 c3
        have hf' := hf.set k hlt (xs[k]?.getD 0) (fun j => if j < k + 1 then xs[j]?.getD 0 else 0) (fun i _ => step_if k i _)
        rw [Nat.zero_add] at hf'
        have hb' := hbel.setCell (p := ⟨w.heap.size, k, none⟩) (Nat.le_refl _) (.int .u8 (xs[k]?.getD 0))
        have hs' : w.heap.size < (wr.setCell ⟨w.heap.size, k, none⟩ (.int .u8 (xs[k]?.getD 0))).heap.size := by simpa [World.setCell] using hsz
        have HF := hf'
        clear hf hc hf'
        go_wp2
        go_roundw
        case rel => exact ⟨k + 1, by omega, by go_num, HF, hb', hs'⟩
        case measure => simp [intOf]; omega
      · have hfin : Row .u8 (fun g => g = w.heap.size) wr (some ⟨w.heap.size, 0, none⟩) n xs := hf.row rfl HX.out (by intro i hi; simp [show i < k by omega])
        clear hf hc
        go_wp2
        go_ret
        exact ⟨rfl, hfin, hbel, hsz⟩
end Go.Proofs.YtfgfdjcgfbodfaaGreatDoor
