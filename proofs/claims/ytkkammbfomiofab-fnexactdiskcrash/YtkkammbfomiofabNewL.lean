/-
  FnExactNewDisk: the law's walk.
-/
import Derived.Test.YtkkammbfomiofabNewD
namespace Go.Proofs.Ytkkammbfomiofab
open Go.RowKit

theorem Row.size {k : IntKind} {G : Nat → Prop} {w : World} {a : Option Addr} {n : Nat} {xs : List Int} (h : Row k G w a n xs) : xs.length = n := h.1
/-- One tag for all blocks. -/
def T0 (_ : Nat) : Nat := 0
theorem pread_nil (w : World) (a : Option Addr) : PRead w a 0 [] := ⟨rfl, .inl rfl, fun i hi => absurd hi (by omega)⟩
theorem pown_nil (T : Nat → Nat) (R : Nat → Prop) (w : World) (a : Option Addr) : POwn T R w a 0 [] := ⟨rfl, .inl rfl, fun i hi => absurd hi (by omega)⟩

set_option maxHeartbeats 2000000 in
theorem law_newDisk (b : Int) (w : World) :
    Calls Try.prog 4 #[.int .i64 b] w fun e w' => e = .returned (.bool true) ∧ Below w.heap.size w w' := by
  go_enter Try.func4, Try.ntmps4
  go_wp2_with fail
  refine (newDisk_spec b _).mono ?_
  rintro e w1 ⟨a0, n0, rfl, r0, hn0, hb0⟩
  go_wp2_with fail
  refine (newDisk_impl b _).mono ?_
  rintro e w2 ⟨a1, n1, rfl, r1, hn1, hb1⟩
  have h3 : w2.heap[w1.heap.size]? = some (.cells #[.slice a0 n0 n0, .slice none 0 0] 30 (0, 0)) := (hb1.block w1.heap.size (by simp)).trans (heap_alloc_new w1 _)
  have s2 : w1.heap.size < w2.heap.size := by have := hb1.size; simp at this; omega
  have s1 : w.heap.size ≤ w1.heap.size := hb0.size
  obtain ⟨p1, p2, _, _⟩ := two_cells h3
  have q0 := (r0.alloc _).below hb1
  have HB1 : Hid (Below w.heap.size w w2) := (hb0.alloc s1 _).trans (hb1.mono (by simp; omega))
  have q1 : Row .u8 (fun g => w1.heap.size + 1 ≤ g ∧ g < w2.heap.size) w2 a1 n1 (newD b) := r1.mono (fun g hg => by simpa using hg)
  clear r0 hb1 r1 hb0
  go_wp2_with fail
  refine (eqDisk_any _ _ _ _ _ _ _ _ _ _ _ _ (newD b) (newD b) [] [] _ (q1.alloc _).read (q0.alloc _).read (pread_nil _ _) (pread_nil _ _) (by omega) (by omega) (by omega) (by omega)).mono ?_
  rintro e w3 ⟨rfl, hb2⟩
  rw [show decide (newD b = newD b ∧ wVal [] = wVal []) = true from by simp]
  have h4 : w3.heap[w2.heap.size]? = some (.cells #[.slice a1 n1 n1, .slice none 0 0] 30 (0, 0)) := (hb2.block w2.heap.size (by simp)).trans (heap_alloc_new w2 _)
  have h5 : w3.heap[w1.heap.size]? = some (.cells #[.slice a0 n0 n0, .slice none 0 0] 30 (0, 0)) := ((hb2.block w1.heap.size (by simp; omega)).trans (heap_alloc_old w2 _ s2)).trans h3
  have s3 : w2.heap.size < w3.heap.size := by have := hb2.size; simp at this; omega
  have q0' := (q0.alloc _).below hb2
  have q1' : Row .u8 (fun g => T0 g = 0 ∧ (w1.heap.size + 1 ≤ g ∧ g < w2.heap.size)) w3 a1 n1 (newD b) := ((q1.alloc _).below hb2).mono (fun g hg => ⟨rfl, hg⟩)
  have HB2 : Hid (Below w.heap.size w w3) := (HB1.out.alloc (by omega) _).trans (hb2.mono (by simp; omega))
  obtain ⟨p3, p4, _, _⟩ := two_cells h4
  clear h3 p1 p2 q0 q1 hb2 HB1
  go_wp2_with fail
  refine (markDisk_any _ _ _ _ _ _ _ T0 (fun g => w1.heap.size + 1 ≤ g ∧ g < w2.heap.size) _ _ _ q1' (pown_nil _ _ _ _) (fun g hg => by omega) (by omega) (by omega) (by omega) (by omega)).mono ?_
  rintro e w4 ⟨ws, rfl, hmk, hr, hp, hk⟩
  have hws : ws = [] := List.length_eq_zero_iff.1 hp.1
  subst hws
  have h6 : w4.heap[w2.heap.size]? = some (.cells #[.slice a1 n1 n1, .slice none 0 0] 30 (0, 0)) := (hk.block w2.heap.size s3 (by omega)).trans h4
  have h7 : w4.heap[w1.heap.size]? = some (.cells #[.slice a0 n0 n0, .slice none 0 0] 30 (0, 0)) := (hk.block w1.heap.size (by omega) (by omega)).trans h5
  have s4 : w3.heap.size ≤ w4.heap.size := hk.size
  have q2 := q0'.kept hk (fun g h1 h2 => by omega)
  have HB3 : Hid (Below w.heap.size w w4) := HB2.out.trans (hk.below (by omega) (fun g hg => by omega))
  obtain ⟨p5, p6, _, _⟩ := two_cells h6
  clear q0' q1' HB2 p3 p4 h4 h5 hk
  have b0 : (0 : Int) ≤ 1 + (n1 : Int) := by omega
  have e0 : mpos (1 + (n1 : Int)) [] 0 = 1 + (n1 : Int) := rfl
  rw [e0]
  clear e0
  go_wp2_with fail
  refine (heldDisk_any _ _ _ _ _ _ _ [] _ hr.read (pread_nil _ _) hmk (by omega) (by omega) (by omega) (by omega)).mono ?_
  rintro e w5 ⟨rfl, hb3⟩
  have e0 : mpos (1 + (n1 : Int)) [] 0 = 1 + (n1 : Int) := rfl
  rw [e0]
  clear e0
  have h8 : w5.heap[w1.heap.size]? = some (.cells #[.slice a0 n0 n0, .slice none 0 0] 30 (0, 0)) := (hb3.block w1.heap.size (by omega)).trans h7
  have q3 := q2.below hb3
  have s5 : w4.heap.size ≤ w5.heap.size := hb3.size
  have HB4 : Hid (Below w.heap.size w w5) := HB3.out.trans (hb3.mono (by omega))
  have t1 : ¬ (1 + (n1 : Int)) < 0 := by omega
  have t2 : ((1 + (n1 : Int)) != (1 + (n1 : Int))) = false := by simp
  clear hr hp hmk p5 p6 h6 h7 q2 hb3 HB3
  go_wp2_with fail
  refine (newDisk_impl b _).mono ?_
  rintro e w6 ⟨a2, n2, rfl, r2, hn2, hb4⟩
  have h9 : w6.heap[w1.heap.size]? = some (.cells #[.slice a0 n0 n0, .slice none 0 0] 30 (0, 0)) := (hb4.block w1.heap.size (by omega)).trans h8
  have q4 := q3.below hb4
  have s6 : w5.heap.size ≤ w6.heap.size := hb4.size
  have s7 : w1.heap.size < w6.heap.size := by omega
  have HB5 : Hid (Below w.heap.size w w6) := HB4.out.trans (hb4.mono (by omega))
  obtain ⟨p7, p8, _, _⟩ := two_cells h9
  clear q3 h8 hb4 HB4
  go_wp2_with fail
  refine (eqDisk_any _ _ _ _ _ _ _ _ _ _ _ _ (newD b) (newD b) [] [] _ (r2.alloc _).read (q4.alloc _).read (pread_nil _ _) (pread_nil _ _) (by omega) (by omega) (by omega) (by omega)).mono ?_
  rintro e w7 ⟨rfl, hb5⟩
  rw [show decide (newD b = newD b ∧ wVal [] = wVal []) = true from by simp]
  have HB6 : Hid (Below w.heap.size w w7) := (HB5.out.alloc (by omega) _).trans (hb5.mono (by simp; omega))
  clear q4 r2 hb5 p7 p8 h9 HB5
  go_wp2
  go_ret
  exact ⟨rfl, HB6.out⟩
end Go.Proofs.Ytkkammbfomiofab
