/-
  FnExactEncodeInode: the law's walk.
-/
import Derived.Test.YtkkammbfomiofabInz
namespace Go.Proofs.Ytkkammbfomiofab
open Go.RowKit
set_option linter.unusedSimpArgs false
set_option linter.unusedVariables false

theorem Row.drewNI {k : IntKind} {G : Nat → Prop} {w : World} {a : Option Addr} {n : Nat} {xs : List Int} (h : Row k G w a n xs) (d : Nat) : Row k G (w.drewN d) a n xs := h
theorem below_dNI {w : World} (d : Nat) : Below w.heap.size w (w.drewN d) := below_drewN (Below.refl _ _) d

set_option maxHeartbeats 4000000 in
theorem law_encodeInode (nm : ByteArray) (z : Int) (a : Option Addr) (n ca : Nat) (xs : List Int) (w : World) (ha : IRow .i64 w a n xs) (hm : (nm.size : Int) ≤ 9223372036854775807) (hn : (n : Int) ≤ 9223372036854775807) :
    Calls Try.prog 10 #[.agg #[.string nm, .int .i64 z, .slice a n ca]] w fun e w' => e = .returned (.bool true) ∧ Below w.heap.size w w' := by
  have HL : Hid ((encI nm z xs).length ≤ 64) := encI_len nm z xs
  have HA : Hid (IRow .i64 w a n xs) := ha
  clear ha
  go_enter Try.func10, Try.ntmps10
  go_wp2_with fail
  refine (szInode_any nm z a n ca _ hm hn).mono ?_
  rintro e w1 ⟨r, rfl, hr, hb1⟩
  have k1 := (hb1.block w.heap.size (by simp)).trans (heap_alloc_new w _)
  have HB1 : Hid (Below w.heap.size w w1) := ((Below.refl _ _).alloc (Nat.le_refl _) _).trans (hb1.mono (by simp))
  have z1 : w.heap.size < w1.heap.size := (Array.getElem?_eq_some_iff.1 k1).1
  obtain ⟨⟨m0, m1, m2⟩, _, _, _⟩ := three_cellsI k1
  clear hb1
  by_cases hneg : r < 0
  · go_wp2
    go_ret
    exact ⟨rfl, HB1.out⟩
  obtain ⟨hs, hn1⟩ := hr (by omega)
  have hn2 : n ≤ 2097152 := by omega
  clear hr
  go_wp2_with fail
  refine (toInode_any nm z _ _ _ xs _ (HA.out.below HB1.out) hn2).mono ?_
  rintro e w2 ⟨g2, rfl, q21, q22, r2, hb2⟩
  have k2 := (hb2.block w.heap.size z1).trans k1
  have HB2 : Hid (Below w.heap.size w w2) := HB1.out.trans (hb2.mono (by omega))
  have z2 := hb2.size
  have r2' := r2.read
  clear k1 HB1 hb2 m0 m1 m2 r2
  go_wp2_with fail
  refine (encodeInode_spec nm z _ _ _ xs _ r2' hs hn2).mono ?_
  rintro e w3 ⟨s0, rfl, hown0, hb3⟩
  obtain ⟨a0, c0, rfl, r0⟩ := owns_row hown0
  have k3 := (hb3.block w.heap.size (by omega)).trans k2
  have HB3 : Hid (Below w.heap.size w w3) := HB2.out.trans (hb3.mono (by omega))
  have z3 := hb3.size
  generalize hxs : encI nm z xs = bs at *
  have HXS : Hid (encI nm z xs = bs) := hxs
  have r3 : Row .u8 (fun g => w.heap.size < g ∧ g < w3.heap.size) w3 a0 bs.length bs := r0.mono (fun g hg => by omega)
  obtain ⟨⟨m0, m1, m2⟩, _, _, _⟩ := three_cellsI k3
  clear hown0 hb3 k2 HB2 r0 hxs r2'
  go_wp2_with fail
  refine (toInode_any nm z _ _ _ xs _ (HA.out.below HB3.out) hn2).mono ?_
  rintro e w4 ⟨g4, rfl, q41, q42, i4, hb4⟩
  have k4 := (hb4.block w.heap.size (by omega)).trans k3
  have HB4 : Hid (Below w.heap.size w w4) := HB3.out.trans (hb4.mono (by omega))
  have z4 := hb4.size
  have r4 := r3.below hb4
  clear hb4 k3 HB3 r3 m0 m1 m2
  go_wp2_with fail
  refine (encodeInode_impl nm z _ _ _ xs _ (i4.allocI _).read hs hn2).mono ?_
  rintro e w5 ⟨a1, c1, rfl, r10, hb50⟩
  rw [HXS.out] at r10 ⊢
  have x5 := (hb50.block w4.heap.size (by simp)).trans (heap_alloc_new w4 _)
  have k5 := (hb50.block w.heap.size (by simp; omega)).trans ((heap_alloc_old w4 _ (by omega)).trans k4)
  have hb5 : Below w4.heap.size w4 w5 := ((Below.refl _ _).alloc (Nat.le_refl _) _).trans (hb50.mono (by simp))
  have r1 : Row .u8 (fun g => w4.heap.size < g ∧ g < w5.heap.size) w5 a1 bs.length bs := r10.mono (fun g hg => by simp at hg; omega)
  have HB5 : Hid (Below w.heap.size w w5) := HB4.out.trans (hb5.mono (by omega))
  have x5s : w4.heap.size < w5.heap.size := (Array.getElem?_eq_some_iff.1 x5).1
  have z5 := hb5.size
  have r5 := r4.below hb5
  have i5 := i4.below hb5
  clear hb5 hb50 r10 k4 HB4 r4 i4
  go_wp2_with fail
  refine (eqByteS_any _ _ _ _ _ _ bs bs _ r1.read r5.read (by have := HL.out; omega) (by have := HL.out; omega)).mono ?_
  rintro e w6 ⟨rfl, d6, rfl⟩
  rw [show decide (bs = bs) = true from by simp]
  have hb60 : Below w5.heap.size w5 (w5.drewN d6) := below_dNI d6
  generalize w5.drewN d6 = W6 at *
  have k6 := (hb60.block w.heap.size (by omega)).trans k5
  have x6 := (hb60.block w4.heap.size (by omega)).trans x5
  obtain ⟨⟨m0, m1, m2⟩, _, _, _⟩ := three_cellsI k6
  obtain ⟨⟨y0, y1, y2⟩, _, _, _⟩ := three_cellsI x6
  have hb6 : Below w5.heap.size w5 W6.drew := hb60.drew
  have hA6 : IRow .i64 W6.drew a n xs := HA.out.below (HB5.out.trans (hb6.mono (by omega)))
  go_wp2_with fail
  go_region_law (first
    | (go_simp; go_at_call 41; refine (toInode_any nm z _ _ _ xs _ hA6 hn2).mono ?_; rintro e w7 ⟨g7, rfl, q71, q72, i7, hb7⟩; have hb7' : Below w5.heap.size w5 w7 := hb6.trans (hb7.mono hb6.size); have x7 := (hb7'.block w4.heap.size (by omega)).trans x5; obtain ⟨⟨u0, u1, u2⟩, _, _, _⟩ := three_cellsI x7; have i7' := i5.below hb7')
    | (go_simp; go_at_call 43; refine (eqInode_same nm z _ _ _ _ _ xs _ i7'.read i7.read hn2).mono ?_; rintro e w8 ⟨rfl, hb8⟩))
  all_goals
    have k7 := (hb7'.block w.heap.size (by omega)).trans k5
    have HB7 : Hid (Below w.heap.size w w7) := HB5.out.trans (hb7'.mono (by omega))
    have z7 := hb7'.size
    have r7 := r5.below hb7'
    have p7 := r1.below hb7'
    clear hb7 hb7' x5 x6 k5 k6 HB5 r5 r1 i5 m0 m1 m2 i7 y0 y1 y2 u0 u1 u2 hb6 hb60 hA6
    have k8 := (hb8.block w.heap.size (by omega)).trans k7
    have x8 := (hb8.block w4.heap.size (by omega)).trans x7
    obtain ⟨⟨y0, y1, y2⟩, _, _, _⟩ := three_cellsI x8
    have HB8 : Hid (Below w.heap.size w w8) := HB7.out.trans (hb8.mono (by omega))
    have z8 := hb8.size
    have r8 := r7.below hb8
    have p8 := p7.below hb8
    have i8 := i7'.below hb8
    clear hb8 k7 x7 HB7 r7 p7
    go_wp2_with fail
    refine (markInode_any nm z _ _ _ _ _ xs _ i8 hn2 (by omega) (by omega)).mono ?_
    rintro e w9 ⟨rfl, hk9⟩
    have k9 := (hk9.block w.heap.size (by omega) (by omega)).trans k8
    have HB9 : Hid (Below w.heap.size w w9) := HB8.out.trans (hk9.below (by omega) (fun g hg => by omega))
    have z9 := hk9.size
    have r9 := r8.kept hk9 (fun g h1 h2 => by omega)
    have p9 := p8.kept hk9 (fun g h1 h2 => by omega)
    have t1 : ¬ (1 + (n : Int)) < 0 := by omega
    have t1' : decide ((1 + (n : Int)) < 0) = false := by simp; omega
    clear hk9 k8 x8 y0 y1 y2 HB8 r8 p8 i8
    go_wp2_with fail
    refine (eqByteS_any _ _ _ _ _ _ bs bs _ p9.read r9.read (by have := HL.out; omega) (by have := HL.out; omega)).mono ?_
    rintro e w10 ⟨rfl, d10, rfl⟩
    rw [show decide (bs = bs) = true from by simp]
    go_wp2_with fail
    refine (markByteS_any _ _ _ _ _ _ _ (p9.drewNI d10) (by have := HL.out; omega) (by omega) (by omega)).mono ?_
    rintro e w11 ⟨rfl, p11, hk11⟩
    have hk11' : Kept _ w9 w11 := (Kept.drewN w9 d10 _).trans hk11
    have k11 := (hk11'.block w.heap.size (by omega) (by omega)).trans k9
    have HB11 : Hid (Below w.heap.size w w11) := HB9.out.trans (hk11'.below (by omega) (fun g hg => by omega))
    have z11 := hk11'.size
    have r11 := r9.kept hk11' (fun g h1 h2 => by omega)
    clear hk11 hk11' k9 HB9 r9 p9
    go_wp2_with fail
    refine (heldByteS_any _ _ _ _ _ p11.read (by have := HL.out; omega) (by omega) (by omega)).mono ?_
    rintro e w12 ⟨rfl, hw⟩
    have hw' := hw.symm
    subst hw'
    have t2 : ¬ (1 + (bs.length : Int)) < 0 := by omega
    have t3 : ((1 + (bs.length : Int)) != (1 + (bs.length : Int))) = false := by simp
    obtain ⟨⟨m0, m1, m2⟩, _, _, _⟩ := three_cellsI k11
    clear p11
    go_wp2_with fail
    refine (toInode_any nm z _ _ _ xs _ (HA.out.below HB11.out) hn2).mono ?_
    rintro e w13 ⟨g13, rfl, q131, q132, i13, hb13⟩
    have HB13 : Hid (Below w.heap.size w w13) := HB11.out.trans (hb13.mono (by omega))
    have z13 := hb13.size
    have r13 := r11.below hb13
    have i13r := i13.read
    clear hb13 k11 HB11 r11 m0 m1 m2 i13
    go_wp2_with fail
    refine (encodeInode_impl nm z _ _ _ xs _ i13r hs hn2).mono ?_
    rintro e w14 ⟨a2, c2, rfl, r2, hb14⟩
    rw [HXS.out] at r2 ⊢
    have HB14 : Hid (Below w.heap.size w w14) := HB13.out.trans (hb14.mono (by omega))
    have r14 := r13.below hb14
    clear hb14 HB13 r13 i13r
    go_wp2_with fail
    refine (eqByteS_any _ _ _ _ _ _ bs bs _ r2.read r14.read (by have := HL.out; omega) (by have := HL.out; omega)).mono ?_
    rintro e w15 ⟨rfl, d15, rfl⟩
    rw [show decide (bs = bs) = true from by simp]
    go_wp2
    go_ret
    exact ⟨rfl, below_drewN HB14.out _⟩
end Go.Proofs.Ytkkammbfomiofab
