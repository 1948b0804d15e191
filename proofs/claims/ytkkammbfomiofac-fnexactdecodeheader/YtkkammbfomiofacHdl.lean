/-
  FnExactEncodeHeader: the law's walk.
-/
import Derived.Test.YtkkammbfomiofacHds
namespace Go.Proofs.Ytkkammbfomiofac
open Go.RowKit
set_option linter.unusedSimpArgs false
set_option linter.unusedVariables false

theorem toHeader_any (s p q : Int) (w : World) :
    Calls Try.prog 13 #[.agg #[.int .i64 s, .int .i64 p, .int .i64 q]] w fun e w' => e = .returned (.agg #[.int .i64 s, .int .i64 p, .int .i64 q]) ∧ Below w.heap.size w w' := by
  go_enter Try.func13, Try.ntmps13
  go_wp2
  refine bodyPost_ret (v := .agg #[.int .i64 s, .int .i64 p, .int .i64 q]) (by simp [results, Try.results13, go_sem]) rfl ?_
  refine ⟨rfl, ?_⟩
  exact ((((Below.refl _ _).alloc (Nat.le_refl _) _).alloc (by simp) _).alloc (by simp; omega) _)

theorem encH_len (s p q : Int) : (encH s p q).length ≤ 64 := by
  unfold encH
  split
  · rw [hdrL_len]; exact Nat.le_refl _
  · simp
theorem Row.drewN {k : IntKind} {G : Nat → Prop} {w : World} {a : Option Addr} {n : Nat} {xs : List Int} (h : Row k G w a n xs) (d : Nat) : Row k G (w.drewN d) a n xs := h
theorem below_dN {w : World} (d : Nat) : Below w.heap.size w (w.drewN d) := below_drewN (Below.refl _ _) d

set_option maxHeartbeats 4000000 in
theorem law_encodeHeader (s p q : Int) (w : World) :
    Calls Try.prog 3 #[.agg #[.int .i64 s, .int .i64 p, .int .i64 q]] w fun e w' => e = .returned (.bool true) ∧ Below w.heap.size w w' := by
  have HL : Hid ((encH s p q).length ≤ 64) := encH_len s p q
  go_enter Try.func3, Try.ntmps3
  go_wp2_with fail
  refine (toHeader_any s p q _).mono ?_
  rintro e w1 ⟨rfl, hb1⟩
  have k1 := (hb1.block w.heap.size (by simp)).trans (heap_alloc_new w _)
  have HB1 : Hid (Below w.heap.size w w1) := ((Below.refl _ _).alloc (Nat.le_refl _) _).trans (hb1.mono (by simp))
  have z1 : w.heap.size < w1.heap.size := (Array.getElem?_eq_some_iff.1 k1).1
  clear hb1
  go_wp2_with fail
  refine (encodeHeader_spec s p q _).mono ?_
  rintro e w2 ⟨s0, rfl, hown0, hb2⟩
  obtain ⟨a0, c0, rfl, r0⟩ := owns_row hown0
  have k2 := (hb2.block w.heap.size z1).trans k1
  have HB2 : Hid (Below w.heap.size w w2) := HB1.out.trans (hb2.mono HB1.out.size)
  have z2 : w.heap.size < w2.heap.size := (Array.getElem?_eq_some_iff.1 k2).1
  generalize hxs : encH s p q = xs at *
  have HXS : Hid (encH s p q = xs) := hxs
  have r0' : Row .u8 (fun g => w.heap.size < g ∧ g < w2.heap.size) w2 a0 xs.length xs := r0.mono (fun g hg => by omega)
  obtain ⟨m0, m1, m2⟩ := three_cells k2
  clear hown0 hb2 k1 HB1 r0 hxs
  go_wp2_with fail
  refine (toHeader_any s p q _).mono ?_
  rintro e w3 ⟨rfl, hb3⟩
  have k3 := (hb3.block w.heap.size z2).trans k2
  have HB3 : Hid (Below w.heap.size w w3) := HB2.out.trans (hb3.mono HB2.out.size)
  have z3 := hb3.size
  have r3 := r0'.below hb3
  clear hb3 k2 HB2 r0' m0 m1 m2
  go_wp2_with fail
  refine (encodeHeader_impl s p q _).mono ?_
  rintro e w4 ⟨a1, c1, rfl, r1, hb4⟩
  rw [HXS.out] at r1 ⊢
  have k4 := (hb4.block w.heap.size (by omega)).trans k3
  have HB4 : Hid (Below w.heap.size w w4) := HB3.out.trans (hb4.mono (by omega))
  have z4 := hb4.size
  have r4 := r3.below hb4
  clear hb4 k3 HB3 r3
  go_wp2_with fail
  refine (eqByteS_any _ _ _ _ _ _ xs xs _ r1.read r4.read (by have := HL.out; omega) (by have := HL.out; omega)).mono ?_
  rintro e w5 ⟨rfl, d5, rfl⟩
  rw [show decide (xs = xs) = true from by simp]
  go_wp2_with fail
  refine (markByteS_any _ _ _ _ _ _ _ (r1.drewN d5) (by have := HL.out; omega) (by omega) (by omega)).mono ?_
  rintro e w6 ⟨rfl, q6, hk6⟩
  have hk6' : Kept _ w4 w6 := (Kept.drewN w4 d5 _).trans hk6
  have HB6 : Hid (Below w.heap.size w w6) := HB4.out.trans (hk6'.below (by omega) (fun g hg => by omega))
  have k6 := (hk6'.block w.heap.size (by omega) (by omega)).trans k4
  have z6 := hk6'.size
  have r6 := r4.kept hk6' (fun g h1 h2 => by omega)
  clear r4 r1 hk6 hk6' HB4 k4
  go_wp2_with fail
  refine (heldByteS_any _ _ _ _ _ q6.read (by have := HL.out; omega) (by omega) (by omega)).mono ?_
  rintro e w7 ⟨rfl, hw⟩
  have hw' := hw.symm
  subst hw'
  have t2 : ¬ (1 + (xs.length : Int)) < 0 := by omega
  have t3 : ((1 + (xs.length : Int)) != (1 + (xs.length : Int))) = false := by simp
  obtain ⟨m0, m1, m2⟩ := three_cells k6
  clear q6
  go_wp2_with fail
  refine (toHeader_any s p q _).mono ?_
  rintro e w8 ⟨rfl, hb8⟩
  have HB8 : Hid (Below w.heap.size w w8) := HB6.out.trans (hb8.mono (by omega))
  have z8 := hb8.size
  have r8 := r6.below hb8
  clear hb8 k6 HB6 r6 m0 m1 m2
  go_wp2_with fail
  refine (encodeHeader_impl s p q _).mono ?_
  rintro e w9 ⟨a2, c2, rfl, r2, hb9⟩
  rw [HXS.out] at r2 ⊢
  have HB9 : Hid (Below w.heap.size w w9) := HB8.out.trans (hb9.mono (by omega))
  have r9 := r8.below hb9
  clear hb9 HB8 r8
  go_wp2_with fail
  refine (eqByteS_any _ _ _ _ _ _ xs xs _ r2.read r9.read (by have := HL.out; omega) (by have := HL.out; omega)).mono ?_
  rintro e w10 ⟨rfl, d10, rfl⟩
  rw [show decide (xs = xs) = true from by simp]
  go_wp2
  go_ret
  exact ⟨rfl, below_drewN HB9.out _⟩
end Go.Proofs.Ytkkammbfomiofac
