/-
  FnExactDiskRead: the law's walk.
-/
import Derived.Test.YtkkammbfomiofabDrd
namespace Go.Proofs.Ytkkammbfomiofab
open Go.RowKit
set_option linter.unusedSimpArgs false
set_option linter.unusedVariables false

theorem Row.drewD {k : IntKind} {G : Nat → Prop} {w : World} {a : Option Addr} {n : Nat} {xs : List Int} (h : Row k G w a n xs) (d : Nat) : Row k G (w.drewN d) a n xs := h
theorem below_dD {w : World} (d : Nat) : Below w.heap.size w (w.drewN d) := below_drewN (Below.refl _ _) d
theorem dreadL_len (n : Nat) (xs : List Int) (val : List (Int × List Int)) (b : Int) (hx : xs.length = n) : (dreadL n xs val b).length ≤ 64 := by
  unfold dreadL
  split
  · rename_i h
    rw [readL_len ((validB_iff _ _).1 h.1) hx h.2.1 h.2.2]
    exact Nat.le_refl _
  · simp

set_option maxRecDepth 100000 in
set_option maxHeartbeats 4000000 in
theorem law_diskRead (a p : Option Addr) (n ca m cp : Nat) (xs : List Int) (ws : List WV) (b : Int) (w : World) (ha : IRow .u8 w a n xs) (hp : PRaw w p m ws) (hl : Lens m ws) (hn : (n : Int) ≤ 9223372036854775807) (hm : (m : Int) ≤ 9223372036854775807) (hb : (Lit.int .i64 b).wf = true) :
    Calls Try.prog 6 #[.agg #[.slice a n ca, .slice p m cp], .int .i64 b] w fun e w' => e = .returned (.bool true) ∧ Below w.heap.size w w' := by
  have HLd : Hid (∀ val, (dreadL n xs val b).length ≤ 64) := fun val => dreadL_len n xs val b ha.1
  go_enter Try.func6, Try.ntmps6
  go_wp2_with fail
  refine (szDisk_any _ _ _ _ _ _ _ ws _ (hp.below ((Below.refl _ _).alloc (Nat.le_refl _) _)) hl hn hm (by omega) (by omega)).mono ?_
  rintro e w1 ⟨r, rfl, hr, hb1⟩
  have hbel : Below w.heap.size w w1 := ((Below.refl _ _).alloc (Nat.le_refl _) _).trans (hb1.mono (by simp))
  have k1 := (hb1.block w.heap.size (by simp)).trans (heap_alloc_new w _)
  have s1 : w.heap.size < w1.heap.size := (Array.getElem?_eq_some_iff.1 k1).1
  obtain ⟨p1, p2, _, _⟩ := two_cells k1
  by_cases hneg : r < 0
  · clear hr hb1 k1 ha hp hl
    go_wp2
    go_ret
    exact ⟨rfl, hbel⟩
  obtain ⟨b1, b2, b3⟩ := hr (by omega)
  have n1 : n ≤ 2097152 := by omega
  have m1 : m ≤ 2097152 := by omega
  have HA : Hid (IRow .u8 w1 a n xs) := ha.below hbel
  have HP : Hid (PRead w1 p m ws) := (hp.below hbel).read (fun i hi => by have := b3 i hi; omega)
  clear hr hb1 ha hp hl b3
  go_wp2_with fail
  refine (toDisk_any _ _ _ _ _ _ xs ws _ HA.out HP.out n1 m1).mono ?_
  rintro e w2 ⟨T1, v1, g1, q1, rfl, hD1, e1, hb2⟩
  have hd1 := hD1.pend.read
  have hx1 := hD1.dur.read
  clear hD1
  go_wp2_with fail
  refine (diskRead_spec _ _ _ _ _ _ xs v1 b _ hx1 hd1 (Nat.le_refl _) n1 m1).mono ?_
  rintro e w3 ⟨s0, rfl, hown0, hb3⟩
  rw [e1] at hown0
  obtain ⟨a0, c0, rfl, r0⟩ := owns_row hown0
  have hb4 : Below w1.heap.size w1 w3 := hb2.trans (hb3.mono hb2.size)
  have k3 := (hb4.block w.heap.size s1).trans k1
  have s3 : w.heap.size < w3.heap.size := (Array.getElem?_eq_some_iff.1 k3).1
  have z3 := hb4.size
  have R3 := r0.mono (G' := fun g => w1.heap.size ≤ g ∧ g < w3.heap.size) (fun g hg => ⟨by have := hb2.size; omega, hg.2⟩)
  have HB3 : Hid (Below w1.heap.size w1 w3) := hb4
  obtain ⟨p3, p4, _, _⟩ := two_cells k3
  have hL := HLd.out (wVal ws)
  generalize hds : dreadL n xs (wVal ws) b = ds at *
  have HDS : Hid (dreadL n xs (wVal ws) b = ds) := hds
  clear hd1 hx1 hb2 hb3 hb4 k1 p1 p2 e1 hown0 r0 HLd hds
  go_wp2_with fail
  refine (toDisk_any _ _ _ _ _ _ xs ws _ (HA.out.below HB3.out) (HP.out.below HB3.out) n1 m1).mono ?_
  rintro e w4 ⟨T2, v2, g2, q2, rfl, hD2, e2, hb5⟩
  have E2 : Hid (wVal v2 = wVal ws) := e2
  have k4 := (hb5.block w.heap.size s3).trans k3
  have z4 := hb5.size
  have R4 := R3.below hb5
  have HB4 : Hid (Below w1.heap.size w1 w4) := HB3.out.trans (hb5.mono HB3.out.size)
  have HD4 : Hid (DOwn T2 w3.heap.size w4.heap.size w4 (some ⟨g2, 0, none⟩) n xs (some ⟨q2, 0, none⟩) m v2) := hD2
  clear e2 hb5 k3 p3 p4 R3 HB3 hD2
  go_wp2_with fail
  have hE5 := HD4.out.alloc (.cells #[.slice (some ⟨g2, 0, none⟩) n n, .slice (some ⟨q2, 0, none⟩) m m] 30)
  refine (diskRead_impl _ _ _ _ _ _ xs v2 b _ hE5.dur.read hE5.pend.read (Nat.le_refl _) n1 m1 hb).mono ?_
  rintro e w5 ⟨g0, c5, rfl, hg0, hg5, r5, hb6⟩
  rw [E2.out, HDS.out] at r5
  rw [E2.out, HDS.out]
  have szA : (w4.alloc (.cells #[.slice (some ⟨g2, 0, none⟩) n n, .slice (some ⟨q2, 0, none⟩) m m] 30)).heap.size = w4.heap.size + 1 := by simp
  rw [szA] at hg0
  have hbA : Below w4.heap.size w4 w5 := ((Below.refl _ w4).alloc (Nat.le_refl _) _).trans (hb6.mono (by simp))
  have k5 := (hbA.block w.heap.size (by omega)).trans k4
  have j5 := (hb6.block w4.heap.size (by simp)).trans (heap_alloc_new w4 _)
  have z5 := hbA.size
  have R5 := R4.below hbA
  have HD5 : Hid (DOwn T2 w3.heap.size w4.heap.size w5 (some ⟨g2, 0, none⟩) n xs (some ⟨q2, 0, none⟩) m v2) := HD4.out.below hbA
  have HB5 : Hid (Below w1.heap.size w1 w5) := HB4.out.trans (hbA.mono HB4.out.size)
  clear hb6 hbA k4 R4 HB4 HD4 hE5 szA
  go_wp2_with fail
  refine (eqByteS_any _ _ _ _ _ _ ds ds _ r5.read R5.read (by omega) (by omega)).mono ?_
  rintro e w6 ⟨rfl, d6, rfl⟩
  rw [show decide (ds = ds) = true from by simp]
  obtain ⟨p5, p6, _, _⟩ := two_cells k5
  obtain ⟨p7, p8, _, _⟩ := two_cells j5
  have HK5 : Hid (w5.heap[w.heap.size]? = some (.cells #[.slice a n ca, .slice p m cp] 25 (0, 0))) := k5
  have HJ5 : Hid (w5.heap[w4.heap.size]? = some (.cells #[.slice (some ⟨g2, 0, none⟩) n n, .slice (some ⟨q2, 0, none⟩) m m] 30 (0, 0))) := j5
  clear k5 j5
  go_wp2_with fail
  obtain ⟨W6, hW6⟩ : ∃ W6, w5.drewN d6 = W6 := ⟨_, rfl⟩
  have bW6 : Below w5.heap.size w5 W6.drew := by rw [← hW6]; exact (below_dD d6).drew
  have hA6 := (HA.out.below HB5.out).below bW6
  have hP6 := (HP.out.below HB5.out).below bW6
  have hD6 := HD5.out.below bW6
  have R6 := R5.below bW6
  have r6 := r5.below bW6
  have k6 : W6.drew.heap[w.heap.size]? = _ := (bW6.block w.heap.size (by omega)).trans HK5.out
  have j6 : W6.drew.heap[w4.heap.size]? = _ := (bW6.block w4.heap.size (by omega)).trans HJ5.out
  have z6 := bW6.size
  have HB6 : Hid (Below w1.heap.size w1 W6.drew) := HB5.out.trans (bW6.mono HB5.out.size)
  have s6 : w4.heap.size < W6.drew.heap.size := (Array.getElem?_eq_some_iff.1 j6).1
  have p9 : W6.cell? ⟨w.heap.size, 0, none⟩ = some (.slice a n ca) := (two_cells k6).1
  have p10 : W6.cell? ⟨w.heap.size, 1, none⟩ = some (.slice p m cp) := (two_cells k6).2.1
  have p11 : W6.cell? ⟨w4.heap.size, 0, none⟩ = some (.slice (some ⟨g2, 0, none⟩) n n) := (two_cells j6).1
  have p12 : W6.cell? ⟨w4.heap.size, 1, none⟩ = some (.slice (some ⟨q2, 0, none⟩) m m) := (two_cells j6).2.1
  have HR6 : Hid (Row .u8 (fun g => w1.heap.size ≤ g ∧ g < w3.heap.size) W6.drew a0 ds.length ds ∧ Row .u8 (fun x => x = g0) W6.drew (some ⟨g0, 0, none⟩) ds.length ds) := ⟨R6, r6⟩
  rw [hW6]
  have HK6 : Hid (W6.drew.heap[w.heap.size]? = some (.cells #[.slice a n ca, .slice p m cp] 25 (0, 0))) := k6
  have HD6 : Hid (DOwn T2 w3.heap.size w4.heap.size W6.drew (some ⟨g2, 0, none⟩) n xs (some ⟨q2, 0, none⟩) m v2) := hD6
  clear hW6 bW6 k6 R6 r6 R5 r5 HB5 HD5 p5 p6 p7 p8 HK5 HJ5
  go_region_with (first
    | (go_at_call 15; refine (toDisk_any _ _ _ _ _ _ xs ws W6.drew hA6 hP6 n1 m1).mono ?_; rintro e w6 ⟨T3, v3, g3, q3, rfl, hD3, e3, hb7⟩; obtain ⟨y1, y2, y3, y4⟩ := two_cells ((hb7.block w4.heap.size s6).trans j6); have E3 : Hid (wVal v3 = wVal ws) := e3; clear e3)
    | (go_at_call 17; refine (eqDisk_any _ _ _ _ _ _ _ _ _ _ _ _ xs xs v2 v3 _ (hD6.below hb7).dur.read hD3.dur.read (hD6.below hb7).pend.read hD3.pend.read n1 n1 m1 m1).mono ?_; rintro e w7 ⟨rfl, hb8⟩; rw [show decide (xs = xs ∧ wVal v2 = wVal v3) = true from by simp [E2.out, E3.out]]))
  all_goals
    have hb9 : Below W6.drew.heap.size W6.drew w7 := hb7.trans (hb8.mono hb7.size)
    have z9 := hb9.size
    have k9 := (hb9.block w.heap.size (by omega)).trans HK6.out
    have j9 := (hb9.block w4.heap.size s6).trans j6
    have R9 := HR6.out.1.below hb9
    have r9 := HR6.out.2.below hb9
    have hD9 := HD6.out.below hb9
    have HB9 : Hid (Below w1.heap.size w1 w7) := HB6.out.trans (hb9.mono HB6.out.size)
    obtain ⟨o1, o2, _, _⟩ := two_cells k9
    obtain ⟨o3, o4, _, _⟩ := two_cells j9
    have HK9 : Hid (w7.heap[w.heap.size]? = some (.cells #[.slice a n ca, .slice p m cp] 25 (0, 0))) := k9
    clear hb7 hb8 hb9 hD3 hD6 hA6 hP6 j6 y1 y2 y3 y4 HR6 HD6 HK6 p9 p10 p11 p12 k9 HB6
    go_wp2_with fail
    refine (markDisk_any _ _ _ _ _ _ _ T2 (fun g => w3.heap.size ≤ g ∧ g < w4.heap.size) xs v2 _ hD9.dur hD9.pend (fun g hg => by omega) n1 m1 (by omega) (by omega)).mono ?_
    rintro e w10 ⟨ws10, rfl, _, _, hu10, hk10⟩
    have z10 := hk10.size
    have R10 := R9.kept hk10 (fun g h1 h2 => by omega)
    have r10 := r9.kept hk10 (fun g h1 h2 => by omega)
    have HB10 : Hid (Below w1.heap.size w1 w10) := HB9.out.trans (hk10.below (by omega) (fun g hg => by omega))
    have k10 : w10.heap[w.heap.size]? = _ := (hk10.block w.heap.size (by omega) (fun hg => by omega)).trans HK9.out
    obtain ⟨o5, o6, _, _⟩ := two_cells k10
    have HK10 : Hid (w10.heap[w.heap.size]? = some (.cells #[.slice a n ca, .slice p m cp] 25 (0, 0))) := k10
    have b10 := (mpos_bound (1 + (n : Int)) ws10 m (fun i hi => (hu10.2.2 i hi).2) m (Nat.le_refl _)).1
    have t1 : ¬ mpos (1 + (n : Int)) ws10 m < 0 := by omega
    have t1' : decide (mpos (1 + (n : Int)) ws10 m < 0) = false := by simpa using t1
    clear hu10 hk10 R9 r9 hD9 HB9 HK9 o1 o2 o3 o4 j9 k10 b10
    go_wp2_with fail
    refine (eqByteS_any _ _ _ _ _ _ ds ds _ r10.read R10.read (by omega) (by omega)).mono ?_
    rintro e w11 ⟨rfl, d11, rfl⟩
    rw [show decide (ds = ds) = true from by simp]
    go_wp2_with fail
    refine (markByteS_any _ _ _ _ _ _ _ (r10.drewD d11) (by omega) (by omega) (by omega)).mono ?_
    rintro e w12 ⟨rfl, r12, hk12⟩
    have hk12' : Kept (fun x => x = g0) w10 w12 := (Kept.drewN w10 d11 _).trans hk12
    have z12 := hk12'.size
    have R12 := R10.kept hk12' (fun g h1 h2 => by omega)
    have HB12 : Hid (Below w1.heap.size w1 w12) := HB10.out.trans (hk12'.below (by omega) (fun g hg => by omega))
    have k12 : w12.heap[w.heap.size]? = _ := (hk12'.block w.heap.size (by omega) (fun hg => by omega)).trans HK10.out
    clear R10 r10 hk12 hk12' HB10 HK10 o5 o6
    go_wp2_with fail
    refine (heldByteS_any _ _ _ _ _ r12.read (by omega) (by omega) (by omega)).mono ?_
    rintro e w13 ⟨rfl, hw⟩
    have hw' := hw.symm
    subst hw'
    have t2 : ¬ (1 + (ds.length : Int)) < 0 := by omega
    have t3 : ((1 + (ds.length : Int)) != (1 + (ds.length : Int))) = false := by simp
    obtain ⟨o7, o8, _, _⟩ := two_cells k12
    clear r12
    go_wp2_with fail
    refine (toDisk_any _ _ _ _ _ _ xs ws _ (HA.out.below HB12.out) (HP.out.below HB12.out) n1 m1).mono ?_
    rintro e w14 ⟨T5, v5, g5, q5, rfl, hD14, e14, hb14⟩
    have R14 := R12.below hb14
    have HB14 : Hid (Below w1.heap.size w1 w14) := HB12.out.trans (hb14.mono HB12.out.size)
    have E14 : Hid (wVal v5 = wVal ws) := e14
    have hx14 := hD14.dur.read
    have hd14 := hD14.pend.read
    clear hb14 R12 HB12 e14 hD14 k12 o7 o8
    go_wp2_with fail
    refine (diskRead_impl _ _ _ _ _ _ xs v5 b _ hx14 hd14 (Nat.le_refl _) n1 m1 hb).mono ?_
    rintro e w15 ⟨g15, c15, rfl, _, _, r15, hb15⟩
    rw [E14.out, HDS.out] at r15
    rw [E14.out, HDS.out]
    have R15 := R14.below hb15
    have HB15 : Hid (Below w1.heap.size w1 w15) := HB14.out.trans (hb15.mono HB14.out.size)
    clear hx14 hd14 R14 hb15 HB14
    go_wp2_with fail
    refine (eqByteS_any _ _ _ _ _ _ ds ds _ r15.read R15.read (by omega) (by omega)).mono ?_
    rintro e w16 ⟨rfl, d16, rfl⟩
    rw [show decide (ds = ds) = true from by simp]
    clear r15 R15
    go_wp2
    go_ret
    exact ⟨rfl, hbel.trans ((below_drewN HB15.out d16).mono hbel.size)⟩
end Go.Proofs.Ytkkammbfomiofab
