/-
  FnExactEncodeTable: the law's walk.
-/
import Derived.Test.YtkkammbfomiofabEncU
namespace Go.Proofs.Ytkkammbfomiofab
open Go.RowKit
set_option linter.unusedSimpArgs false
set_option linter.unusedVariables false

theorem encT_len (es : List (Int × Bool)) : (encT es).length ≤ 2048 := by
  unfold encT
  split
  · rename_i h; rw [eBytes_len]; omega
  · simp

theorem Row.drewN {k : IntKind} {G : Nat → Prop} {w : World} {a : Option Addr} {n : Nat} {xs : List Int} (h : Row k G w a n xs) (d : Nat) : Row k G (w.drewN d) a n xs := h
theorem EOwn.drewN {G : Nat → Prop} {w : World} {a : Option Addr} {m : Nat} {es : List (Int × Bool)} (h : EOwn G w a m es) (d : Nat) : EOwn G (w.drewN d) a m es := h
theorem below_dN {w : World} (d : Nat) : Below w.heap.size w (w.drewN d) := below_drewN (Below.refl _ _) d

set_option maxHeartbeats 4000000 in
theorem law_encodeTable (a : Option Addr) (n ca : Nat) (es : List (Int × Bool)) (w : World) (ha : ERead w a n es) (hn : (n : Int) ≤ 9223372036854775807) :
    Calls Try.prog 11 #[.slice a n ca] w fun e w' => e = .returned (.bool true) ∧ Below w.heap.size w w' := by
  have hlen := encT_len es
  by_cases hneg : 1048576 - (n : Int) < 0
  · clear ha
    go_enter Try.func11, Try.ntmps11
    go_wp2_with fail
    refine (szEntryS_any _ _ _ _ _ hn (by omega) (by omega)).mono ?_
    rintro e w1 ⟨rfl, rfl⟩
    rw [if_pos (by omega)]
    go_wp2
    go_ret
    exact ⟨rfl, Below.refl _ _⟩
  have hn2 : n ≤ 2097152 := by omega
  have HL : Hid ((encT es).length ≤ 2048) := hlen
  clear hlen
  go_enter Try.func11, Try.ntmps11
  go_wp2_with fail
  refine (szEntryS_any _ _ _ _ _ hn (by omega) (by omega)).mono ?_
  rintro e w0 ⟨rfl, hw⟩
  have hw' := hw.symm
  subst hw'
  rw [if_neg (by omega)]
  have HA : Hid (ERead w a n es) := ha
  go_wp2_with fail
  refine (toEntryS_any _ _ _ es _ ha hn2).mono ?_
  rintro e w1 ⟨rfl, hE1, hb1, hs1⟩
  have hR1 := hE1.read
  clear hE1
  go_wp2_with fail
  refine (encodeTable_spec _ _ _ es _ hR1 hn2).mono ?_
  rintro e w2 ⟨s0, rfl, hown0, hb2⟩
  obtain ⟨a0, c0, rfl, r0⟩ := owns_row hown0
  have HB2 : Hid (Below w.heap.size w w2) := hb1.trans (hb2.mono hb1.size)
  have z2 := HB2.out.size
  generalize hxs : encT es = xs at *
  have HXS : Hid (encT es = xs) := hxs
  have r0' : Row .u8 (fun g => w.heap.size ≤ g ∧ g < w2.heap.size) w2 a0 xs.length xs := r0.mono (fun g hg => by omega)
  clear hown0 hb1 hb2 hR1 r0 ha hxs
  go_wp2_with fail
  refine (toEntryS_any _ _ _ es _ (HA.out.below HB2.out) hn2).mono ?_
  rintro e w3 ⟨rfl, hE3, hb3, hs3⟩
  have HB3 : Hid (Below w.heap.size w w3) := HB2.out.trans (hb3.mono z2)
  have z3 := hb3.size
  have r3 := r0'.below hb3
  clear r0' hb3 HB2
  go_wp2_with fail
  refine (encodeTable_impl _ _ _ es _ hE3.read hn2).mono ?_
  rintro e w4 ⟨s1, rfl, hown1, hb4⟩
  rw [HXS.out] at hown1
  obtain ⟨a1, c1, rfl, r1⟩ := owns_row hown1
  have HB4 : Hid (Below w.heap.size w w4) := HB3.out.trans (hb4.mono (by omega))
  have z4 := hb4.size
  have r4 := r3.below hb4
  have hE4 := hE3.below hb4
  clear hown1 hb4 r3 hE3 HB3
  go_wp2_with fail
  refine (eqByteS_any _ _ _ _ _ _ xs xs _ r1.read r4.read (by have := HL.out; omega) (by have := HL.out; omega)).mono ?_
  rintro e w5 ⟨rfl, d5, rfl⟩
  rw [show decide (xs = xs) = true from by simp]
  go_wp2_with fail
  refine (toEntryS_any _ _ _ es _ (HA.out.below (below_drewN HB4.out d5)) hn2).mono ?_
  rintro e w6 ⟨rfl, hE6, hb6, hs6⟩
  have hb6' : Below w4.heap.size w4 w6 := (below_dN d5).trans hb6
  have HB6 : Hid (Below w.heap.size w w6) := HB4.out.trans (hb6'.mono (by omega))
  have z6 := hb6'.size
  have r6 := r4.below hb6'
  have q6 := r1.below hb6'
  have hE6' := hE4.below hb6'
  have hR6 := hE6.read
  clear r4 r1 hE4 hb6 hb6' hs6 hE6 HB4
  go_wp2_with fail
  refine (eqEntryS_any _ _ _ _ _ _ es es _ hE6'.read hR6 hn2 hn2).mono ?_
  rintro e w7 ⟨rfl, hb7⟩
  rw [show decide (es = es) = true from by simp]
  have HB7 : Hid (Below w.heap.size w w7) := HB6.out.trans (hb7.mono (by omega))
  have z7 := hb7.size
  have r7 := r6.below hb7
  have q7 := q6.below hb7
  have hE7 := hE6'.below hb7
  clear r6 q6 hE6' hR6 hb7 HB6
  go_wp2_with fail
  refine (markEntryS_any _ _ _ _ _ es _ hE7 hn2 (by omega) (by omega)).mono ?_
  rintro e w8 ⟨es8, rfl, hE8, _, hk8⟩
  have HB8 : Hid (Below w.heap.size w w8) := HB7.out.trans (hk8.below (by omega) (fun g hg => by omega))
  have z8 := hk8.size
  have r8 := r7.kept hk8 (fun g h1 h2 => by omega)
  have q8 := q7.kept hk8 (fun g h1 h2 => by omega)
  have t1 : ¬ (1 + 2 * (n : Int)) < 0 := by omega
  have t1' : decide ((1 + 2 * (n : Int)) < 0) = false := by simp; omega
  clear r7 q7 hE7 hE8 hk8 HB7
  go_wp2_with fail
  refine (eqByteS_any _ _ _ _ _ _ xs xs _ q8.read r8.read (by have := HL.out; omega) (by have := HL.out; omega)).mono ?_
  rintro e w9 ⟨rfl, d9, rfl⟩
  rw [show decide (xs = xs) = true from by simp]
  go_wp2_with fail
  refine (markByteS_any _ _ _ _ _ _ _ (q8.drewN d9) (by have := HL.out; omega) (by omega) (by omega)).mono ?_
  rintro e w10 ⟨rfl, q10, hk10⟩
  have hk10' : Kept _ w8 w10 := (Kept.drewN w8 d9 _).trans hk10
  have HB10 : Hid (Below w.heap.size w w10) := HB8.out.trans (hk10'.below (by omega) (fun g hg => by omega))
  have z10 := hk10'.size
  have r10 := r8.kept hk10' (fun g h1 h2 => by omega)
  clear r8 q8 hk10 hk10' HB8
  go_wp2_with fail
  refine (heldByteS_any _ _ _ _ _ q10.read (by have := HL.out; omega) (by omega) (by omega)).mono ?_
  rintro e w11 ⟨rfl, hw⟩
  have hw' := hw.symm
  subst hw'
  have t2 : ¬ (1 + (xs.length : Int)) < 0 := by omega
  have t3 : ((1 + (xs.length : Int)) != (1 + (xs.length : Int))) = false := by simp
  clear q10
  go_wp2_with fail
  refine (toEntryS_any _ _ _ es _ (HA.out.below HB10.out) hn2).mono ?_
  rintro e w12 ⟨rfl, hE12, hb12, hs12⟩
  have HB12 : Hid (Below w.heap.size w w12) := HB10.out.trans (hb12.mono (by omega))
  have z12 := hb12.size
  have r12 := r10.below hb12
  have hR12 := hE12.read
  clear r10 hE12 hb12 HB10
  go_wp2_with fail
  refine (encodeTable_impl _ _ _ es _ hR12 hn2).mono ?_
  rintro e w13 ⟨s2, rfl, hown2, hb13⟩
  rw [HXS.out] at hown2
  obtain ⟨a2, c2, rfl, r2⟩ := owns_row hown2
  have HB13 : Hid (Below w.heap.size w w13) := HB12.out.trans (hb13.mono (by omega))
  have r13 := r12.below hb13
  clear hown2 hb13 r12 HB12
  go_wp2_with fail
  refine (eqByteS_any _ _ _ _ _ _ xs xs _ r2.read r13.read (by have := HL.out; omega) (by have := HL.out; omega)).mono ?_
  rintro e w14 ⟨rfl, d14, rfl⟩
  rw [show decide (xs = xs) = true from by simp]
  go_wp2
  go_ret
  exact ⟨rfl, below_drewN HB13.out _⟩
end Go.Proofs.Ytkkammbfomiofab
