/-
  FnExactValidDisk: the law's walk.
-/
import Derived.Test.YtkkammbfomiofabValid
namespace Go.Proofs.Ytkkammbfomiofab
open Go.RowKit
set_option linter.unusedSimpArgs false
set_option linter.unusedVariables false

theorem Lens.of {n : Nat} {ws : List WV} (h : ∀ i, i < n → (wN ws i : Int) ≤ 9223372036854775807) : Lens n ws := h

set_option maxHeartbeats 4000000 in
theorem law_validDisk (a p : Option Addr) (n ca m cp : Nat) (xs : List Int) (ws : List WV) (w : World) (ha : IRow .u8 w a n xs) (hp : PRaw w p m ws) (hl : Lens m ws) (hn : (n : Int) ≤ 9223372036854775807) (hm : (m : Int) ≤ 9223372036854775807) :
    Calls Try.prog 3 #[.agg #[.slice a n ca, .slice p m cp]] w fun e w' => e = .returned (.bool true) ∧ Below w.heap.size w w' := by
  go_enter Try.func3, Try.ntmps3
  go_wp2_with fail
  refine (szDisk_any _ _ _ _ _ _ _ ws _ (hp.below ((Below.refl _ _).alloc (Nat.le_refl _) _)) hl hn hm (by omega) (by omega)).mono ?_
  rintro e w1 ⟨r, rfl, hr, hb1⟩
  have hbel : Below w.heap.size w w1 := ((Below.refl _ _).alloc (Nat.le_refl _) _).trans (hb1.mono (by simp))
  have k1 := (hb1.block w.heap.size (by simp)).trans (heap_alloc_new w _)
  have s1 : w.heap.size < w1.heap.size := (Array.getElem?_eq_some_iff.1 k1).1
  obtain ⟨p1, p2, _, _⟩ := two_cells k1
  by_cases hneg : r < 0
  · clear hr hb1 k1 ha hp hl
    go_wp2
    go_ret
    exact ⟨rfl, hbel⟩
  obtain ⟨b1, b2, b3⟩ := hr (by omega)
  have hA := ha.below hbel
  have hP : PRead w1 p m ws := (hp.below hbel).read (fun i hi => by have := b3 i hi; omega)
  clear hr hb1 ha hp hl b3
  go_wp2_with fail
  refine (toDisk_any _ _ _ _ _ _ xs ws _ hA hP (by omega) (by omega)).mono ?_
  rintro e w2 ⟨T1, v1, g1, q1, rfl, hD1, e1, hb2⟩
  have E1 : Hid (wVal v1 = wVal ws) := e1
  have hd1 := hD1.pend.read
  clear e1 hD1
  go_wp2_with fail
  refine (validDisk_spec _ _ _ _ _ _ v1 _ hd1 (by omega) (by omega)).mono ?_
  rintro e w3 ⟨rfl, hb3⟩
  rw [E1.out]
  have hb4 : Below w1.heap.size w1 w3 := hb2.trans (hb3.mono hb2.size)
  have k3 := (hb4.block w.heap.size s1).trans k1
  have s3 : w.heap.size < w3.heap.size := (Array.getElem?_eq_some_iff.1 k3).1
  have hA3 := hA.below hb4
  have hP3 := hP.below hb4
  have HB3 : Hid (Below w.heap.size w w3) := hbel.trans (hb4.mono hbel.size)
  obtain ⟨p3, p4, _, _⟩ := two_cells k3
  clear hd1 hb2 hb3 hb4 k1 p1 p2 hA hP hbel E1
  go_wp2_with fail
  refine (toDisk_any _ _ _ _ _ _ xs ws _ hA3 hP3 (by omega) (by omega)).mono ?_
  rintro e w4 ⟨T2, v2, g2, q2, rfl, hD2, e2, hb5⟩
  have E2 : Hid (wVal v2 = wVal ws) := e2
  have k4 := (hb5.block w.heap.size s3).trans k3
  have s4 : w.heap.size < w4.heap.size := (Array.getElem?_eq_some_iff.1 k4).1
  have hA4 := hA3.below hb5
  have hP4 := hP3.below hb5
  have HB4 : Hid (Below w.heap.size w w4) := HB3.out.trans (hb5.mono HB3.out.size)
  clear e2 hb5 k3 p3 p4 hA3 hP3 HB3
  go_wp2_with fail
  refine (validDisk_impl _ _ _ _ _ _ v2 _ (hD2.alloc _).pend.read (by omega) (by omega)).mono ?_
  rintro e w5 ⟨rfl, hb6⟩
  rw [E2.out]
  have k5 := ((hb6.block w.heap.size (by simp; omega)).trans (heap_alloc_old w4 _ s4)).trans k4
  have s5 : w.heap.size < w5.heap.size := (Array.getElem?_eq_some_iff.1 k5).1
  have j5 := (hb6.block w4.heap.size (by simp)).trans (heap_alloc_new w4 _)
  have hA5 := (hA4.alloc _).below hb6
  have hP5 := (hP4.below ((Below.refl _ _).alloc (Nat.le_refl _) _)).below hb6
  have hD5 := (hD2.alloc _).below hb6
  have HB5 : Hid (Below w.heap.size w w5) := (HB4.out.alloc (by omega) _).trans (hb6.mono (by simp; omega))
  obtain ⟨p5, p6, _, _⟩ := two_cells k5
  obtain ⟨p7, p8, _, _⟩ := two_cells j5
  have hx : (validB n (wVal ws) != validB n (wVal ws)) = false := by simp
  clear hb6 k4 hA4 hP4 hD2 HB4
  go_wp2_with fail
  have hdr : Below w5.heap.size w5 w5.drew := (Below.refl _ _).drew
  have hA6 := hA5.below hdr
  have hP6 := hP5.below hdr
  have hD6 := hD5.below hdr
  have j6 : w5.drew.heap[w4.heap.size]? = _ := j5
  have s6 : w4.heap.size < w5.drew.heap.size := (Array.getElem?_eq_some_iff.1 j5).1
  have n1 : n ≤ 2097152 := by omega
  have m1 : m ≤ 2097152 := by omega
  have HB6 : Hid (Below w.heap.size w w5.drew) := HB5.out.drew
  clear hA5 hP5 hD5 hdr k5 HB5
  go_region_with (first
    | (go_at_call 15; refine (toDisk_any _ _ _ _ _ _ xs ws w5.drew hA6 hP6 n1 m1).mono ?_; rintro e w6 ⟨T3, v3, g3, q3, rfl, hD3, e3, hb7⟩; obtain ⟨z1, z2, z3, z4⟩ := two_cells ((hb7.block w4.heap.size s6).trans j6); have E3 : Hid (wVal v3 = wVal ws) := e3; clear e3)
    | (go_at_call 17; refine (eqDisk_any _ _ _ _ _ _ _ _ _ _ _ _ xs xs v2 v3 _ (hD6.below hb7).dur.read hD3.dur.read (hD6.below hb7).pend.read hD3.pend.read n1 n1 m1 m1).mono ?_; rintro e w7 ⟨rfl, hb8⟩; rw [show decide (xs = xs ∧ wVal v2 = wVal v3) = true from by simp [E2.out, E3.out]]))
  all_goals
    have HBF : Below w.heap.size w w7 := (HB6.out.trans (hb7.mono HB6.out.size)).trans (hb8.mono (Nat.le_trans HB6.out.size hb7.size))
    clear hb7 hb8 hD3 hD6 hA6 hP6 j6 s6 z1 z2 z3 z4
    go_wp2
    go_ret
    exact ⟨rfl, HBF⟩
end Go.Proofs.Ytkkammbfomiofab
