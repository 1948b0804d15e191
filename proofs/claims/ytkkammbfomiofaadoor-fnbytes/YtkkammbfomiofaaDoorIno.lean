/-
  Inodes: szInode, toInode, eqInode, markInode; l2Blocks, dataBlocks.
-/
import Derived.Test.YtkkammbfomiofaaDoorGa
import Derived.Test.YtkkammbfomiofaaDoorNameB
import Derived.Test.YtkkammbfomiofaaDoorGb
namespace Go.Proofs.YtkkammbfomiofaaDoor
open Go.RowKit
set_option linter.unusedSimpArgs false
set_option linter.unusedVariables false

theorem three_cellsI {w1 : World} {g : Nat} {t : TypeId} {x y z : Value} (h : w1.heap[g]? = some (.cells #[x, y, z] t (0, 0))) : (w1.cell? ⟨g, 0, none⟩ = some x ∧ w1.cell? ⟨g, 1, none⟩ = some y ∧ w1.cell? ⟨g, 2, none⟩ = some z) ∧ w1.frozen? ⟨g, 0, none⟩ = false ∧ w1.frozen? ⟨g, 1, none⟩ = false ∧ w1.frozen? ⟨g, 2, none⟩ = false := by
  refine ⟨⟨by rw [cell_of_row w1 g 0 _ _ _ h]; rfl, by rw [cell_of_row w1 g 1 _ _ _ h]; rfl, by rw [cell_of_row w1 g 2 _ _ _ h]; rfl⟩, ?_, ?_, ?_⟩ <;> simp [World.frozen?, h]
theorem IRow.allocI {k : IntKind} {w : World} {a : Option Addr} {n : Nat} {xs : List Int} (h : IRow k w a n xs) (o : Obj) : IRow k (w.alloc o) a n xs :=
  h.below ((Below.refl _ _).alloc (Nat.le_refl _) _)
theorem Row.allocI {k : IntKind} {G : Nat → Prop} {w : World} {a : Option Addr} {n : Nat} {xs : List Int} (h : Row k G w a n xs) (o : Obj) : Row k G (w.alloc o) a n xs :=
  h.below ((Below.refl _ _).alloc (Nat.le_refl _) _)

theorem three_varsI {w w1 : World} {o1 o2 o3 : Obj} (hb : Below (((w.alloc o1).alloc o2).alloc o3).heap.size (((w.alloc o1).alloc o2).alloc o3) w1) :
    w1.heap[w.heap.size]? = some o1 ∧ w1.heap[w.heap.size + 1]? = some o2 ∧ w1.heap[w.heap.size + 2]? = some o3 := by
  have s1 : (w.alloc o1).heap.size = w.heap.size + 1 := by simp
  have s2 : ((w.alloc o1).alloc o2).heap.size = w.heap.size + 2 := by simp
  have s3 : (((w.alloc o1).alloc o2).alloc o3).heap.size = w.heap.size + 3 := by simp
  refine ⟨?_, ?_, ?_⟩
  · rw [hb.block _ (by rw [s3]; omega), heap_alloc_old _ _ (by rw [s2]; omega), heap_alloc_old _ _ (by rw [s1]; omega)]; exact heap_alloc_new w o1
  · rw [hb.block _ (by rw [s3]; omega), heap_alloc_old _ _ (by rw [s2]; omega), ← s1]; exact heap_alloc_new _ o2
  · rw [hb.block _ (by rw [s3]; omega), ← s2]; exact heap_alloc_new _ o3

/-- The blocks of a size. -/
def nblk (z : Int) : Int := (z + 63) / 64

theorem dataBlocks_any (z : Int) (w : World) (h0 : 0 ≤ z) (h1 : z ≤ 1408) : Calls Tryd.prog 43 #[.int .i64 z] w fun e w' => e = .returned (.int .i64 (nblk z)) ∧ w' = w := by
  go_enter Tryd.func43, Tryd.ntmps43
  go_wp2
  go_ret
  exact ⟨ret_int (by unfold nblk; omega), rfl⟩

set_option maxHeartbeats 1000000 in
theorem l2Blocks_any (z : Int) (w : World) (h0 : 0 ≤ z) (h1 : z ≤ 1408) : Calls Tryd.prog 41 #[.int .i64 z] w fun e w' => e = .returned (.int .i64 (nblk z)) ∧ w' = w := by
  go_enter Tryd.func41, Tryd.ntmps41
  go_wp2
  go_loop [3] (fun i => ∃ k : Nat, (k : Int) ≤ nblk z ∧ i = .int .i64 k) (fun i => (nblk z).toNat - (intOf i).toNat)
  case atStart => exact ⟨0, by unfold nblk; omega, rfl⟩
  case round =>
    obtain ⟨k, hk, rfl⟩ := hrel
    have hk2 : (k : Int) ≤ 22 := by unfold nblk at hk; omega
    by_cases hlt : (k : Int) * 64 < z
    · have HK : Hid ((k : Int) + 1 ≤ nblk z) := by show _ ≤ _; unfold nblk at hk ⊢; omega
      clear hk
      go_wp2
      go_round
      case rel => exact ⟨k + 1, by have := HK.out; omega, by go_num⟩
      case measure => have := HK.out; simp [intOf]; omega
    · have HK : Hid ((k : Int) = nblk z) := by show _ = _; unfold nblk at hk ⊢; omega
      clear hk
      go_wp2
      go_ret
      exact ⟨ret_int HK.out, rfl⟩
end Go.Proofs.YtkkammbfomiofaaDoor
