/-
  markDisk, heldDisk.
-/
import Derived.Test.YtkkammbfomiofacMarkW
namespace Go.Proofs.Ytkkammbfomiofac
open Go.RowKit

theorem Row.alloc {k : IntKind} {G : Nat → Prop} {w : World} {a : Option Addr} {n : Nat} {xs : List Int} (h : Row k G w a n xs) (o : Obj) : Row k G (w.alloc o) a n xs :=
  h.below ((Below.refl _ _).alloc (Nat.le_refl _) _)
theorem Kept.alloc (w : World) (o : Obj) (G : Nat → Prop) : Kept G w (w.alloc o) := Kept.of_below ((Below.refl _ _).alloc (Nat.le_refl _) _) _

set_option maxHeartbeats 1000000 in
theorem markDisk_any (a p : Option Addr) (n ca m cp : Nat) (k : Int) (T : Nat → Nat) (R : Nat → Prop) (xs : List Int) (ws : List WV) (w : World) (hx : Row .u8 (fun g => T g = 0 ∧ R g) w a n xs) (hu : POwn T R w p m ws)
    (hR : ∀ g, R g → g < w.heap.size) (hn : n ≤ 2097152) (hm : m ≤ 2097152) (h0 : 0 ≤ k) (h1 : k ≤ 2097152) :
    Calls Try.prog 29 #[.agg #[.slice a n ca, .slice p m cp], .int .i64 k] w fun e w' => ∃ ws', e = .returned (.int .i64 (mpos (k + n) ws' m)) ∧ Marked (k + n) ws' ∧ Row .u8 (fun g => T g = 0 ∧ R g) w' a n (marks k n) ∧ POwn T R w' p m ws' ∧ Kept R w w' := by
  have hR' := hR
  have hcell : ∀ (o : Obj) (w1 : World), Kept (fun g => T g = 0 ∧ R g) (w.alloc o) w1 → w1.heap[w.heap.size]? = some o ∧ POwn T R w1 p m ws := fun o w1 hk => by
    refine ⟨(hk.block _ (by simp) (fun x => by have := hR _ x.2; omega)).trans (heap_alloc_new w o), ?_⟩
    exact (hu.below ((Below.refl _ _).alloc (Nat.le_refl _) _)).kept hk (fun g h1 _ h2 => by omega)
  have HC : Hid (∀ (o : Obj) (w1 : World), Kept (fun g => T g = 0 ∧ R g) (w.alloc o) w1 → w1.heap[w.heap.size]? = some o ∧ POwn T R w1 p m ws) := hcell
  clear hcell hR hR'
  have b1 : k + (n : Int) ≤ 4194304 := by omega
  have b2 : 0 ≤ k + (n : Int) := by omega
  go_enter Try.func29, Try.ntmps29
  go_wp2_with fail
  refine (markByteS_any _ _ _ _ _ _ _ (hx.alloc _) hn h0 (by omega)).mono ?_
  rintro e w1 ⟨rfl, hr1, hk1⟩
  obtain ⟨hblk, hu1⟩ := HC.out _ _ hk1
  have cc := cell_of_row w1 w.heap.size 1 _ _ _ hblk
  simp at cc
  have HBK := Hid.out hblk
  clear HBK hblk
  go_wp2_with fail
  refine (markWriteS_any _ _ _ _ T R ws _ hu1 hm b2 b1).mono ?_
  rintro e w2 ⟨ws', rfl, hmk, hu2, hk2⟩
  have hfin : Row .u8 (fun g => T g = 0 ∧ R g) w2 a n (marks k n) ∧ Kept R w w2 :=
    ⟨hr1.kept hk2 (fun g h1 h2 => by omega), ((Kept.alloc w _ R).trans (hk1.mono fun g h => h.2)).trans (hk2.mono fun g h => h.2)⟩
  clear hr1 hk1 hk2 hx hu hu1
  go_wp2
  go_ret
  exact ⟨ws', rfl, hmk, hfin.1, hu2, hfin.2⟩

set_option maxHeartbeats 1000000 in
theorem heldDisk_any (a p : Option Addr) (n ca m cp : Nat) (k : Int) (ws : List WV) (w : World) (hx : IRow .u8 w a n (marks k n)) (hu : PRead w p m ws) (hmk : Marked (k + n) ws)
    (hn : n ≤ 2097152) (hm : m ≤ 2097152) (h0 : 0 ≤ k) (h1 : k ≤ 2097152) :
    Calls Try.prog 30 #[.agg #[.slice a n ca, .slice p m cp], .int .i64 k] w fun e w' => e = .returned (.int .i64 (mpos (k + n) ws m)) ∧ Below w.heap.size w w' := by
  have b1 : k + (n : Int) ≤ 4194304 := by omega
  have b2 : 0 ≤ k + (n : Int) := by omega
  have b3 := (mpos_bound (k + n) ws m (fun i hi => (hu.2.2 i hi).2) m (Nat.le_refl _)).1
  have b4 : ¬ mpos (k + n) ws m < 0 := by omega
  go_enter Try.func30, Try.ntmps30
  go_wp2_with fail
  refine (heldByteS_any _ _ _ _ _ (hx.alloc _) hn h0 (by omega)).mono ?_
  rintro e w1 ⟨rfl, rfl⟩
  go_wp2_with fail
  refine (heldWriteS_any _ _ _ _ ws _ (hu.below ((Below.refl _ _).alloc (Nat.le_refl _) _)) hmk hm b2 b1).mono ?_
  rintro e w1 ⟨rfl, rfl⟩
  go_wp2
  go_ret
  exact ⟨rfl, (Below.refl _ _).alloc (Nat.le_refl _) _⟩
end Go.Proofs.Ytkkammbfomiofac
