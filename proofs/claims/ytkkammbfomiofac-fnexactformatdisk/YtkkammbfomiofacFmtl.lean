/-
  FnExactFormatDisk: the law's walk.
-/
import Derived.Test.YtkkammbfomiofacFmti
namespace Go.Proofs.Ytkkammbfomiofac
open Go.RowKit
set_option linter.unusedSimpArgs false
set_option linter.unusedVariables false

/-- The bytes of the disk that FormatDisk answers. -/
def fmtX (s b : Int) : List Int := if vG s b = true then padL (List.replicate ((1 + (nblk (2 * (s * b))).toNat) * 64) 0 ++ hdrL 1 s b) ((logN s b + s * b).toNat * 64) else []
theorem fmt_nat {s b : Int} (h : vG s b = true) : nblk (2 * (s * b)) = ((nblk (2 * (s * b))).toNat : Int) ∧ logN s b + s * b = ((logN s b + s * b).toNat : Int) := by
  obtain ⟨m1, m2⟩ := vG_mul h
  unfold logN nblk
  omega
theorem fmtX_len {s b : Int} (h : vG s b = true) : (fmtX s b).length = (logN s b + s * b).toNat * 64 := by
  obtain ⟨h1, h2⟩ := fmt_nat h
  obtain ⟨v1, v2, v3⟩ := fmt_bounds h h1 h2
  unfold fmtX
  rw [if_pos h]
  exact padL_len _ _ (by rw [List.length_append, List.length_replicate, hdrL_len]; omega)
theorem fmtX_le (s b : Int) : (fmtX s b).length ≤ 76800 := by
  cases h : vG s b
  · unfold fmtX; rw [h]; simp
  · rw [fmtX_len h]
    obtain ⟨h1, h2⟩ := fmt_nat h
    have := (fmt_bounds h h1 h2).2.1
    omega
theorem specFmt_any (s b : Int) (w : World) :
    Calls Try.prog 26 #[.agg #[.int .i64 s, .int .i64 b]] w fun e w' => ∃ a c, e = .returned (.agg #[.slice a (fmtX s b).length c, .slice none 0 0]) ∧ Row .u8 (fun g => w.heap.size ≤ g ∧ g < w'.heap.size) w' a (fmtX s b).length (fmtX s b) ∧ Below w.heap.size w w' := by
  cases hv : vG s b
  · have e0 : fmtX s b = [] := by unfold fmtX; rw [hv]; rfl
    refine (specFmt_bad s b w hv).mono ?_
    rintro e w' ⟨rfl, hb⟩
    rw [e0]
    exact ⟨none, 0, rfl, ⟨rfl, .inl rfl⟩, hb⟩
  · obtain ⟨h1, h2⟩ := fmt_nat hv
    refine (specFmt_good s b _ _ w hv h1 h2).mono ?_
    rintro e w' ⟨a, c, rfl, hr, hb⟩
    rw [fmtX_len hv]
    refine ⟨a, c, rfl, ?_, hb⟩
    unfold fmtX
    rw [if_pos hv]
    exact hr
theorem implFmt_any (s b : Int) (w : World) :
    Calls Try.prog 27 #[.agg #[.int .i64 s, .int .i64 b]] w fun e w' => ∃ a c, e = .returned (.agg #[.slice a (fmtX s b).length c, .slice none 0 0]) ∧ Row .u8 (fun g => w.heap.size ≤ g ∧ g < w'.heap.size) w' a (fmtX s b).length (fmtX s b) ∧ Below w.heap.size w w' := by
  cases hv : vG s b
  · have e0 : fmtX s b = [] := by unfold fmtX; rw [hv]; rfl
    refine (implFmt_bad s b w hv).mono ?_
    rintro e w' ⟨rfl, hb⟩
    rw [e0]
    exact ⟨none, 0, rfl, ⟨rfl, .inl rfl⟩, hb⟩
  · obtain ⟨h1, h2⟩ := fmt_nat hv
    refine (implFmt_good s b _ _ w hv h1 h2).mono ?_
    rintro e w' ⟨a, c, rfl, hr, hb⟩
    rw [fmtX_len hv]
    refine ⟨a, c, rfl, ?_, hb⟩
    unfold fmtX
    rw [if_pos hv]
    exact hr

/-- One tag for all blocks. -/
def T0 (_ : Nat) : Nat := 0
theorem pread_nil (w : World) (a : Option Addr) : PRead w a 0 [] := ⟨rfl, .inl rfl, fun i hi => absurd hi (by omega)⟩
theorem pown_nil (T : Nat → Nat) (R : Nat → Prop) (w : World) (a : Option Addr) : POwn T R w a 0 [] := ⟨rfl, .inl rfl, fun i hi => absurd hi (by omega)⟩

set_option maxHeartbeats 4000000 in
set_option maxRecDepth 100000 in
theorem law_formatDisk (s b : Int) (w : World) :
    Calls Try.prog 6 #[.agg #[.int .i64 s, .int .i64 b]] w fun e w' => e = .returned (.bool true) ∧ Below w.heap.size w w' := by
  have hS := specFmt_any s b
  have hI := implFmt_any s b
  have hl := fmtX_le s b
  generalize fmtX s b = R at *
  generalize hm : R.length = m at *
  clear hm
  go_enter Try.func6, Try.ntmps6
  go_wp2_with fail
  refine (toGeometry_any s b _).mono ?_
  rintro e wa ⟨rfl, hba⟩
  have ka := (hba.block w.heap.size (by simp)).trans (heap_alloc_new w _)
  have HBa : Hid (Below w.heap.size w wa) := ((Below.refl _ _).alloc (Nat.le_refl _) _).trans (hba.mono (by simp))
  have za : w.heap.size < wa.heap.size := (Array.getElem?_eq_some_iff.1 ka).1
  clear hba
  go_wp2_with fail
  refine (hS _).mono ?_
  rintro e w1 ⟨a0, c0, rfl, r0, hb0⟩
  have k1 := (hb0.block w.heap.size za).trans ka
  have HB0 : Hid (Below w.heap.size w w1) := HBa.out.trans (hb0.mono HBa.out.size)
  have z1 : w.heap.size < w1.heap.size := (Array.getElem?_eq_some_iff.1 k1).1
  have q0a : Row .u8 (fun g => w.heap.size < g ∧ g < w1.heap.size) w1 a0 m R := r0.mono (fun g hg => by omega)
  obtain ⟨⟨x0, x1⟩, _, _⟩ := cells2g k1
  clear hb0 ka HBa r0 hS
  go_wp2_with fail
  refine (toGeometry_any s b _).mono ?_
  rintro e wb ⟨rfl, hbb⟩
  have hbb' : Below w1.heap.size w1 wb := ((Below.refl _ _).alloc (Nat.le_refl _) _).trans (hbb.mono (by simp))
  have kb := (hbb'.block w.heap.size z1).trans k1
  have db := (hbb.block w1.heap.size (by simp)).trans (heap_alloc_new w1 _)
  have HBb : Hid (Below w.heap.size w wb) := HB0.out.trans (hbb'.mono HB0.out.size)
  have q0b := q0a.below hbb'
  have zb := (Array.getElem?_eq_some_iff.1 db).1
  clear hbb hbb' k1 HB0 q0a x0 x1
  go_wp2_with fail
  refine (hI _).mono ?_
  rintro e w2 ⟨a1, c1, rfl, r1, hb1⟩
  have k2 := (hb1.block w.heap.size (by omega)).trans kb
  have h3 := (hb1.block w1.heap.size zb).trans db
  have HB1 : Hid (Below w.heap.size w w2) := HBb.out.trans (hb1.mono HBb.out.size)
  have q0 := q0b.below hb1
  have s2 : w1.heap.size < w2.heap.size := (Array.getElem?_eq_some_iff.1 h3).1
  have sb := hb1.size
  have q1 : Row .u8 (fun g => w1.heap.size + 1 ≤ g ∧ g < w2.heap.size) w2 a1 m R := r1.mono (fun g hg => by omega)
  obtain ⟨p1, p2, _, _⟩ := two_cells h3
  clear hb1 kb db HBb q0b r1
  go_wp2_with fail
  refine (eqDisk_any _ _ _ _ _ _ _ _ _ _ _ _ R R [] [] _ (q1.alloc _).read (q0.alloc _).read (pread_nil _ _) (pread_nil _ _) (by omega) (by omega) (by omega) (by omega)).mono ?_
  rintro e w3 ⟨rfl, hb2⟩
  rw [show decide (R = R ∧ wVal [] = wVal []) = true from by simp]
  have hb2' : Below w2.heap.size w2 w3 := ((Below.refl _ _).alloc (Nat.le_refl _) _).trans (hb2.mono (by simp))
  have k3 := (hb2'.block w.heap.size (by omega)).trans k2
  have h4 := (hb2.block w2.heap.size (by simp)).trans (heap_alloc_new w2 _)
  have h5 := (hb2'.block w1.heap.size s2).trans h3
  have s3 : w2.heap.size < w3.heap.size := (Array.getElem?_eq_some_iff.1 h4).1
  have q0' := q0.below hb2'
  have q1' : Row .u8 (fun g => T0 g = 0 ∧ (w1.heap.size + 1 ≤ g ∧ g < w2.heap.size)) w3 a1 m R := (q1.below hb2').mono (fun g hg => ⟨rfl, hg⟩)
  have HB2 : Hid (Below w.heap.size w w3) := HB1.out.trans (hb2'.mono HB1.out.size)
  obtain ⟨p3, p4, _, _⟩ := two_cells h4
  clear h3 p1 p2 q0 q1 hb2 hb2' HB1 k2
  go_wp2_with fail
  refine (markDisk_any _ _ _ _ _ _ _ T0 (fun g => w1.heap.size + 1 ≤ g ∧ g < w2.heap.size) _ _ _ q1' (pown_nil _ _ _ _) (fun g hg => by omega) (by omega) (by omega) (by omega) (by omega)).mono ?_
  rintro e w4 ⟨ws, rfl, hmk, hr, hp, hk⟩
  have hws : ws = [] := List.length_eq_zero_iff.1 hp.1
  subst hws
  have k4 := (hk.block w.heap.size (by omega) (by omega)).trans k3
  have h6 := (hk.block w2.heap.size s3 (by omega)).trans h4
  have h7 := (hk.block w1.heap.size (by omega) (by omega)).trans h5
  have s4 : w3.heap.size ≤ w4.heap.size := hk.size
  have q2 := q0'.kept hk (fun g h1 h2 => by omega)
  have HB3 : Hid (Below w.heap.size w w4) := HB2.out.trans (hk.below (by omega) (fun g hg => by omega))
  obtain ⟨p5, p6, _, _⟩ := two_cells h6
  clear q0' q1' HB2 p3 p4 h4 h5 hk k3
  have b0 : (0 : Int) ≤ 1 + (m : Int) := by omega
  have e0 : mpos (1 + (m : Int)) [] 0 = 1 + (m : Int) := rfl
  rw [e0]
  clear e0
  go_wp2_with fail
  refine (heldDisk_any _ _ _ _ _ _ _ [] _ hr.read (pread_nil _ _) hmk (by omega) (by omega) (by omega) (by omega)).mono ?_
  rintro e w5 ⟨rfl, hb3⟩
  have e0 : mpos (1 + (m : Int)) [] 0 = 1 + (m : Int) := rfl
  rw [e0]
  clear e0
  have k5 := (hb3.block w.heap.size (by omega)).trans k4
  have h8 := (hb3.block w1.heap.size (by omega)).trans h7
  have q3 := q2.below hb3
  have s5 : w4.heap.size ≤ w5.heap.size := hb3.size
  have HB4 : Hid (Below w.heap.size w w5) := HB3.out.trans (hb3.mono (by omega))
  have t1 : ¬ (1 + (m : Int)) < 0 := by omega
  have t2 : ((1 + (m : Int)) != (1 + (m : Int))) = false := by simp
  obtain ⟨⟨x0, x1⟩, _, _⟩ := cells2g k5
  clear hr hp hmk p5 p6 h6 h7 q2 hb3 HB3 k4
  go_wp2_with fail
  refine (toGeometry_any s b _).mono ?_
  rintro e w5' ⟨rfl, hbc⟩
  have h8' := (hbc.block w1.heap.size (by omega)).trans h8
  have q3' := q3.below hbc
  have HB4' : Hid (Below w.heap.size w w5') := HB4.out.trans (hbc.mono HB4.out.size)
  have s5' := hbc.size
  clear hbc h8 q3 HB4 x0 x1 k5
  go_wp2_with fail
  refine (hI _).mono ?_
  rintro e w6 ⟨a2, c2, rfl, r2, hb4⟩
  have h9 := (hb4.block w1.heap.size (by omega)).trans h8'
  have q4 := q3'.below hb4
  have s6 := hb4.size
  have s7 : w1.heap.size < w6.heap.size := by omega
  have HB5 : Hid (Below w.heap.size w w6) := HB4'.out.trans (hb4.mono HB4'.out.size)
  obtain ⟨p7, p8, _, _⟩ := two_cells h9
  clear q3' h8' hb4 HB4'
  go_wp2_with fail
  refine (eqDisk_any _ _ _ _ _ _ _ _ _ _ _ _ R R [] [] _ (r2.alloc _).read (q4.alloc _).read (pread_nil _ _) (pread_nil _ _) (by omega) (by omega) (by omega) (by omega)).mono ?_
  rintro e w7 ⟨rfl, hb5⟩
  rw [show decide (R = R ∧ wVal [] = wVal []) = true from by simp]
  have HB6 : Hid (Below w.heap.size w w7) := (HB5.out.alloc HB5.out.size _).trans (hb5.mono (by have := HB5.out.size; simp; omega))
  clear q4 r2 hb5 p7 p8 h9 HB5
  go_wp2
  go_ret
  exact ⟨rfl, HB6.out⟩
end Go.Proofs.Ytkkammbfomiofac
