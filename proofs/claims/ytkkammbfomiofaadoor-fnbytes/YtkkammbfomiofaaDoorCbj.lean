/-
  The draw of an inode out of bytes.
-/
import Derived.Test.YtkkammbfomiofaaDoorCbi
namespace Go.Proofs.YtkkammbfomiofaaDoor
open Go.RowKit
set_option linter.unusedSimpArgs false
set_option linter.unusedVariables false

set_option maxHeartbeats 4000000 in
set_option maxRecDepth 100000 in
theorem drawInode_any (a : Option Addr) (n ca : Nat) (xs : List Int) (w : World) (ha : IRow .u8 w a n xs) (hx : ∀ i, i < n → 0 ≤ xs[i]?.getD 0 ∧ xs[i]?.getD 0 ≤ 255) (hn : n ≤ 2097152) :
    Calls Tryd.prog 4 #[.slice a n ca] w fun e w' => ∃ nm z a' n' c' cs, e = .returned (.agg #[.string nm, .int .i64 z, .slice a' n' c']) ∧ nm.size ≤ 16 ∧ n' ≤ 24 ∧ Row .i64 (fun g => w.heap.size ≤ g ∧ g < w'.heap.size) w' a' n' cs ∧ Below w.heap.size w w' := by
  have hb0 : ∀ o, Below w.heap.size w (w.alloc o) := fun o => (Below.refl _ _).alloc (Nat.le_refl _) o
  have HA : Hid (IRow .u8 w a n xs) := ha
  have HX : Hid (∀ i, i < n → 0 ≤ xs[i]?.getD 0 ∧ xs[i]?.getD 0 ≤ 255) := hx
  clear ha hx
  go_enter Tryd.func4, Tryd.ntmps4
  go_wp2_with fail
  refine (l1SourceF_any _ _ _ xs _ (HA.out.below (hb0 _)) HX.out hn).mono ?_
  rintro e w1 ⟨rfl, src1, hb1⟩
  have es : ∀ o, (w.alloc o).heap.size = w.heap.size + 1 := fun _ => by simp
  rw [es] at src1 ⊢
  have r1 := (hb1.block w.heap.size (by simp)).trans (heap_alloc_new w _)
  have hB1 := (hb0 _).trans (hb1.mono (by simp))
  have z1 := src1.lt
  clear hb1 hb0 es
  go_wp2_with fail
  refine (l2DrawInode_any _ _ _ _ src1 (Nat.le_refl _)).mono ?_
  rintro e w2 ⟨nm, z, a2, n2, c2, cs, rfl, hnm, hn2, own2, kp⟩
  have r2 := (kp.block w.heap.size (by omega) (by omega)).trans r1
  have hB2 := hB1.trans (kp.below hB1.size (fun g hg => by omega))
  obtain ⟨⟨x0, x1, x2⟩, f0, f1, f2⟩ := three_of r2
  have HF : Hid (∀ v0 v1 v2, Row .i64 (fun g => w.heap.size ≤ g ∧ g < (((w2.setCell ⟨w.heap.size, 0, none⟩ v0).setCell ⟨w.heap.size, 1, none⟩ v1).setCell ⟨w.heap.size, 2, none⟩ v2).heap.size) (((w2.setCell ⟨w.heap.size, 0, none⟩ v0).setCell ⟨w.heap.size, 1, none⟩ v1).setCell ⟨w.heap.size, 2, none⟩ v2) a2 n2 cs ∧ Below w.heap.size w (((w2.setCell ⟨w.heap.size, 0, none⟩ v0).setCell ⟨w.heap.size, 1, none⟩ v1).setCell ⟨w.heap.size, 2, none⟩ v2)) := by
    intro v0 v1 v2
    refine ⟨?_, ((hB2.setCell (p := ⟨w.heap.size, 0, none⟩) (Nat.le_refl _) v0).setCell (p := ⟨w.heap.size, 1, none⟩) (Nat.le_refl _) v1).setCell (p := ⟨w.heap.size, 2, none⟩) (Nat.le_refl _) v2⟩
    have kk : Kept (fun g => g = w.heap.size) w2 (((w2.setCell ⟨w.heap.size, 0, none⟩ v0).setCell ⟨w.heap.size, 1, none⟩ v1).setCell ⟨w.heap.size, 2, none⟩ v2) := ((Kept.setCell w2 ⟨w.heap.size, 0, none⟩ _ (fun g => g = w.heap.size) rfl).trans (Kept.setCell _ ⟨w.heap.size, 1, none⟩ _ _ rfl)).trans (Kept.setCell _ ⟨w.heap.size, 2, none⟩ _ _ rfl)
    obtain ⟨a9, c9, e9, r9⟩ := gn_row (gn_kept own2 kk (fun g hg e => by have := (own2.lt g hg).1; omega))
    injection e9 with e9 _ _
    subst e9
    exact r9.mono (fun g hg => by omega)
  clear kp r1 r2 src1 hB1 own2 hB2
  go_wp2
  refine bodyPost_ret (v := .agg #[.string nm, .int .i64 z, .slice a2 n2 c2]) (by simp [results, Tryd.results4, go_sem, x0, x1, x2]) rfl ?_
  exact ⟨_, _, _, _, _, _, rfl, hnm, hn2, (HF.out _ _ _).1, (HF.out _ _ _).2⟩
end Go.Proofs.YtkkammbfomiofaaDoor
