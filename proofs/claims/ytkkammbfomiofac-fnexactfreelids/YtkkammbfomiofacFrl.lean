/-
  FnExactFreeLids: the law's walk.
-/
import Derived.Test.YtkkammbfomiofacFrs
import Derived.Test.YtkkammbfomiofacSegs
namespace Go.Proofs.Ytkkammbfomiofac
open Go.RowKit
set_option linter.unusedSimpArgs false
set_option linter.unusedVariables false

theorem freeR_len (es : List (Int × Bool)) (len : Nat) (nn : Int) (h : len ≤ 2097152) : (freeR es len nn).length ≤ 2097152 := by
  have := freeL_len es len
  unfold freeR
  split
  · simp; omega
  · simp

set_option maxHeartbeats 8000000 in
set_option maxRecDepth 100000 in
theorem law_freeLids (a : Option Addr) (n ca : Nat) (es : List (Int × Bool)) (nn : Int) (w : World) (ha : ERead w a n es) (hn : (n : Int) ≤ 9223372036854775807) :
    Calls Try.prog 11 #[.slice a n ca, .int .i64 nn] w fun e w' => e = .returned (.bool true) ∧ Below w.heap.size w w' := by
  by_cases hbig : 1048576 < n
  · go_enter Try.func11, Try.ntmps11
    go_wp2_with fail
    refine (szEntryS_any _ _ _ 1048576 _ hn (by omega) (by omega)).mono ?_
    rintro e w1 ⟨rfl, hw⟩
    have hw' := hw.symm
    subst hw'
    rw [if_pos (by omega)]
    go_wp2
    go_ret
    exact ⟨rfl, Below.refl _ _⟩
  have hn2 : n ≤ 2097152 := by omega
  have HA : Hid (ERead w a n es) := ha
  have hl := freeR_len es n nn hn2
  have HSp : Hid (∀ (a : Option Addr) (ca : Nat) (v : World), ERead v a n es → Calls Try.prog 47 #[.slice a n ca, .int .i64 nn] v fun e W' => ∃ u, e = .returned u ∧ W'.ownsRow v.heap.size 2 1 u (freeR es n nn).length (i64s (freeR es n nn)) ∧ Below v.heap.size v W') := fun a ca v h => freeLids_spec a n ca es nn v h hn2
  have HIm : Hid (∀ (a : Option Addr) (ca : Nat) (v : World), ERead v a n es → Calls Try.prog 48 #[.slice a n ca, .int .i64 nn] v fun e W' => ∃ u, e = .returned u ∧ W'.ownsRow v.heap.size 2 1 u (freeR es n nn).length (i64s (freeR es n nn)) ∧ Below v.heap.size v W') := fun a ca v h => freeLids_impl a n ca es nn v h hn2
  clear ha
  generalize freeR es n nn = R at *
  generalize hm : R.length = m at *
  clear hm
  go_enter Try.func11, Try.ntmps11
  go_wp2_with fail
  refine (szEntryS_any _ _ _ 1048576 _ hn (by omega) (by omega)).mono ?_
  rintro e w1 ⟨rfl, hw⟩
  have hw' := hw.symm
  subst hw'
  rw [if_neg (by omega)]
  have hneg : ¬ ((1048576 : Int) - (n : Int) < 0) := by omega
  go_wp2_with fail
  refine (toEntryS_any _ _ _ es _ HA.out hn2).mono ?_
  rintro e wa ⟨rfl, oa, hba, za⟩
  have HBa : Hid (Below w.heap.size w wa) := hba
  clear hba
  go_wp2_with fail
  refine (HSp.out _ _ _ oa.read).mono ?_
  rintro e wc ⟨u1, rfl, own1, hb1⟩
  obtain ⟨a1, c1, rfl, r1'⟩ := owns_i64 own1
  have HBX : Hid (Below w.heap.size w wc) := HBa.out.trans (hb1.mono HBa.out.size)
  have r1 : Row .i64 (fun g => w.heap.size < g ∧ g < wc.heap.size) wc a1 m R := r1'.mono (fun g hg => by omega)
  have zc : w.heap.size < wc.heap.size := by have := hb1.size; omega
  clear hb1 own1 r1' oa HBa za
  have hE1 := HA.out.below HBX.out
  go_wp2_with fail
  refine (toEntryS_any _ _ _ es _ hE1 hn2).mono ?_
  rintro e w3 ⟨rfl, o2, hb2, z2⟩
  have HB3 : Hid (Below w.heap.size w w3) := HBX.out.trans (hb2.mono HBX.out.size)
  have r3 := r1.below hb2
  have o3 := o2.mono (G' := fun g => g = wc.heap.size) (fun g hg => hg)
  have z3 := hb2.size
  clear hb2 r1 HBX hE1 o2
  go_wp2_with fail
  refine (HIm.out _ _ _ o3.read).mono ?_
  rintro e w4 ⟨u4, rfl, own4, hb4⟩
  obtain ⟨a4, c4, rfl, q4⟩ := owns_i64 own4
  have HB4 : Hid (Below w.heap.size w w4) := HB3.out.trans (hb4.mono HB3.out.size)
  have z4 := hb4.size
  have r4 := r3.below hb4
  have o4 := o3.below hb4
  clear hb4 r3 HB3 o3 own4
  go_wp2_with fail
  refine (eqInt64S_any _ _ _ _ _ _ R R _ q4.read r4.read (by omega) (by omega)).mono ?_
  rintro e w5 ⟨rfl, d5, rfl⟩
  rw [show decide (R = R) = true from by simp]
  have HB5 : Hid (Below w.heap.size w (w4.drewN d5)) := below_drewN HB4.out d5
  have r5 : Row .i64 (fun g => w.heap.size < g ∧ g < wc.heap.size) (w4.drewN d5) a1 m R := r4
  have q5 : Row .i64 (fun g => w3.heap.size ≤ g ∧ g < w4.heap.size) (w4.drewN d5) a4 m R := q4
  have o5 : EOwn (fun g => g = wc.heap.size) (w4.drewN d5) (some ⟨wc.heap.size, 0, none⟩) n es := o4
  have s5 : w4.heap.size ≤ (w4.drewN d5).heap.size := Nat.le_refl _
  clear r4 q4 o4 HB4
  generalize w4.drewN d5 = w6 at *
  have hE6 := HA.out.below HB5.out
  go_wp2_with fail
  refine (toEntryS_any _ _ _ es _ hE6 hn2).mono ?_
  rintro e w7 ⟨rfl, o7, hb7, z7⟩
  have HB7 : Hid (Below w.heap.size w w7) := HB5.out.trans (hb7.mono HB5.out.size)
  have r7 := r5.below hb7
  have q7 := q5.below hb7
  have p7 := o5.below hb7
  clear hb7 r5 q5 o5 HB5 hE6
  go_wp2_with fail
  refine (eqEntryS_any _ _ _ _ _ _ es es _ p7.read o7.read hn2 hn2).mono ?_
  rintro e w8 ⟨rfl, hb8⟩
  rw [show decide (es = es) = true from by simp]
  have HB8 : Hid (Below w.heap.size w w8) := HB7.out.trans (hb8.mono HB7.out.size)
  have z8 := hb8.size
  have r8 := r7.below hb8
  have q8 := q7.below hb8
  have p8 := p7.below hb8
  clear hb8 r7 q7 p7 o7 HB7
  go_wp2_with fail
  refine (markEntryS_any _ _ _ _ _ es _ p8 hn2 (by omega) (by omega)).mono ?_
  rintro e w9 ⟨es2, rfl, o9, _, hk9⟩
  have HB9 : Hid (Below w.heap.size w w9) := HB8.out.trans (hk9.below HB8.out.size (fun g hg => by omega))
  have z9 := hk9.size
  have r9 := r8.kept hk9 (fun g h1 h2 => by omega)
  have q9 := q8.kept hk9 (fun g h1 h2 => by omega)
  have t1 : ¬ (1 + 2 * (n : Int)) < 0 := by omega
  clear hk9 r8 q8 p8 o9 HB8
  go_wp2_with fail
  refine (eqInt64S_any _ _ _ _ _ _ R R _ q9.read r9.read (by omega) (by omega)).mono ?_
  rintro e wz ⟨rfl, da, rfl⟩
  rw [show decide (R = R) = true from by simp]
  have HBa : Hid (Below w.heap.size w (w9.drewN da)) := below_drewN HB9.out da
  have ra : Row .i64 (fun g => w.heap.size < g ∧ g < wc.heap.size) (w9.drewN da) a1 m R := r9
  have qa : Row .i64 (fun g => w3.heap.size ≤ g ∧ g < w4.heap.size) (w9.drewN da) a4 m R := q9
  have sa : w9.heap.size ≤ (w9.drewN da).heap.size := Nat.le_refl _
  clear r9 q9 HB9
  generalize w9.drewN da = wb at *
  go_wp2_with fail
  refine (markInt64S_any _ _ _ _ _ R _ qa (by omega) (by omega) (by omega)).mono ?_
  rintro e wd ⟨rfl, qd, hkd⟩
  have HBd : Hid (Below w.heap.size w wd) := HBa.out.trans (hkd.below HBa.out.size (fun g hg => by omega))
  have zd := hkd.size
  have rd := ra.kept hkd (fun g h1 h2 => by omega)
  clear hkd ra qa HBa
  go_wp2_with fail
  refine (heldInt64S_any _ _ _ _ _ qd.read (by omega) (by omega) (by omega)).mono ?_
  rintro e we ⟨rfl, hw⟩
  have hw' := hw.symm
  subst hw'
  have t2 : ¬ (1 + (m : Int)) < 0 := by omega
  have t3 : ((1 + (m : Int)) != (1 + (m : Int))) = false := by simp
  clear qd
  have hE9 := HA.out.below HBd.out
  go_wp2_with fail
  refine (toEntryS_any _ _ _ es _ hE9 hn2).mono ?_
  rintro e wf ⟨rfl, of', hbf, zf⟩
  have HBf : Hid (Below w.heap.size w wf) := HBd.out.trans (hbf.mono HBd.out.size)
  have rf := rd.below hbf
  clear hbf rd HBd hE9
  go_wp2_with fail
  refine (HIm.out _ _ _ of'.read).mono ?_
  rintro e wg ⟨ug, rfl, owng, hbg⟩
  obtain ⟨ag, cg, rfl, qg⟩ := owns_i64 owng
  have HBg : Hid (Below w.heap.size w wg) := HBf.out.trans (hbg.mono HBf.out.size)
  have rg := rf.below hbg
  clear hbg rf HBf owng of'
  go_wp2_with fail
  refine (eqInt64S_any _ _ _ _ _ _ R R _ qg.read rg.read (by omega) (by omega)).mono ?_
  rintro e wh ⟨rfl, dh, rfl⟩
  rw [show decide (R = R) = true from by simp]
  clear qg rg
  go_wp2
  go_ret
  exact ⟨rfl, below_drewN HBg.out _⟩
end Go.Proofs.Ytkkammbfomiofac
