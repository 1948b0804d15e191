/-
  FnExactSegmentCounts: the law's walk.
-/
import Derived.Test.YtkkammbfomiofacSegs
namespace Go.Proofs.Ytkkammbfomiofac
open Go.RowKit
set_option linter.unusedSimpArgs false
set_option linter.unusedVariables false

theorem segR_good {S : Nat} {b : Int} (h : vG (S : Int) b = true) (es : List (Int × Bool)) (n : Nat) : segR (S : Int) b es n = segL (logN S b) b es S n := by
  unfold segR; rw [if_pos h]; rfl
theorem segR_bad {s b : Int} (h : vG s b = false) (es : List (Int × Bool)) (n : Nat) : segR s b es n = [] := by
  unfold segR; rw [h]; rfl
theorem specCounts_any (a : Option Addr) (n ca : Nat) (es : List (Int × Bool)) (s b : Int) (w : World) (ha : ERead w a n es) (hn : n ≤ 2097152) :
    Calls Try.prog 32 #[.slice a n ca, .agg #[.int .i64 s, .int .i64 b]] w fun e w' => ∃ a' c', e = .returned (.slice a' (segR s b es n).length c') ∧ Row .i64 (fun g => w.heap.size ≤ g ∧ g < w'.heap.size) w' a' (segR s b es n).length (segR s b es n) ∧ Below w.heap.size w w' := by
  cases hv : vG s b
  · refine (specCounts_bad a n ca s b w hv).mono ?_
    rintro e w' ⟨a', c', rfl, hb⟩
    rw [segR_bad hv]
    exact ⟨a', c', rfl, ⟨rfl, .inl rfl⟩, hb⟩
  · obtain ⟨S, rfl⟩ : ∃ S : Nat, s = (S : Int) := ⟨s.toNat, by have := vG_yes hv; omega⟩
    refine (specCounts_good a n ca es S b w ha hn hv).mono ?_
    rintro e w' ⟨a', c', rfl, hr, hb⟩
    rw [segR_good hv, segL_len]
    exact ⟨a', c', rfl, hr, hb⟩
theorem segCounts_any (a : Option Addr) (n ca : Nat) (es : List (Int × Bool)) (s b : Int) (w : World) (ha : ERead w a n es) (hn : n ≤ 2097152) :
    Calls Try.prog 34 #[.slice a n ca, .agg #[.int .i64 s, .int .i64 b]] w fun e w' => ∃ a' c', e = .returned (.slice a' (segR s b es n).length c') ∧ Row .i64 (fun g => w.heap.size ≤ g ∧ g < w'.heap.size) w' a' (segR s b es n).length (segR s b es n) ∧ Below w.heap.size w w' := by
  cases hv : vG s b
  · refine (segCounts_bad a n ca s b w hv).mono ?_
    rintro e w' ⟨a', c', rfl, hb⟩
    rw [segR_bad hv]
    exact ⟨a', c', rfl, ⟨rfl, .inl rfl⟩, hb⟩
  · obtain ⟨S, rfl⟩ : ∃ S : Nat, s = (S : Int) := ⟨s.toNat, by have := vG_yes hv; omega⟩
    refine (segCounts_good a n ca es S b w ha hn hv).mono ?_
    rintro e w' ⟨a', c', rfl, hr, hb⟩
    rw [segR_good hv, segL_len]
    exact ⟨a', c', rfl, hr, hb⟩

set_option maxHeartbeats 8000000 in
set_option maxRecDepth 100000 in
theorem law_segmentCounts (a : Option Addr) (n ca : Nat) (es : List (Int × Bool)) (s b : Int) (w : World) (ha : ERead w a n es) (hn : (n : Int) ≤ 9223372036854775807) :
    Calls Try.prog 7 #[.slice a n ca, .agg #[.int .i64 s, .int .i64 b]] w fun e w' => e = .returned (.bool true) ∧ Below w.heap.size w w' := by
  by_cases hbig : 1048576 < n
  · go_enter Try.func7, Try.ntmps7
    go_wp2_with fail
    refine (szEntryS_any _ _ _ 1048576 _ hn (by omega) (by omega)).mono ?_
    rintro e w1 ⟨rfl, hw⟩
    have hw' := hw.symm
    subst hw'
    rw [if_pos (by omega)]
    go_wp2
    go_ret
    exact ⟨rfl, (Below.refl _ _).alloc (Nat.le_refl _) _⟩
  have hn2 : n ≤ 2097152 := by omega
  have HA : Hid (ERead w a n es) := ha
  have hl := segR_len s b es n
  have hSp := specCounts_any (es := es) (s := s) (b := b) (n := n)
  have hIm := segCounts_any (es := es) (s := s) (b := b) (n := n)
  have HSp : Hid (∀ (a : Option Addr) (ca : Nat) (v : World), ERead v a n es → n ≤ 2097152 → Calls Try.prog 32 #[.slice a n ca, .agg #[.int .i64 s, .int .i64 b]] v fun e w' => ∃ a' c', e = .returned (.slice a' (segR s b es n).length c') ∧ Row .i64 (fun g => v.heap.size ≤ g ∧ g < w'.heap.size) w' a' (segR s b es n).length (segR s b es n) ∧ Below v.heap.size v w') := fun a ca v h1 h2 => specCounts_any a n ca es s b v h1 h2
  have HIm : Hid (∀ (a : Option Addr) (ca : Nat) (v : World), ERead v a n es → n ≤ 2097152 → Calls Try.prog 34 #[.slice a n ca, .agg #[.int .i64 s, .int .i64 b]] v fun e w' => ∃ a' c', e = .returned (.slice a' (segR s b es n).length c') ∧ Row .i64 (fun g => v.heap.size ≤ g ∧ g < w'.heap.size) w' a' (segR s b es n).length (segR s b es n) ∧ Below v.heap.size v w') := fun a ca v h1 h2 => segCounts_any a n ca es s b v h1 h2
  clear ha hSp hIm
  generalize segR s b es n = R at *
  generalize hm : R.length = m at *
  clear hm
  go_enter Try.func7, Try.ntmps7
  go_wp2_with fail
  refine (szEntryS_any _ _ _ 1048576 _ hn (by omega) (by omega)).mono ?_
  rintro e w1 ⟨rfl, hw⟩
  have hw' := hw.symm
  subst hw'
  rw [if_neg (by omega)]
  have hneg : ¬ ((1048576 : Int) - (n : Int) < 0) := by omega
  have HB00 : Below w.heap.size w (w.alloc (.cells #[.int .i64 s, .int .i64 b] 38)) := (Below.refl _ _).alloc (Nat.le_refl _) _
  have kG00 : (w.alloc (.cells #[.int .i64 s, .int .i64 b] 38)).heap[w.heap.size]? = some (.cells #[.int .i64 s, .int .i64 b] 38 (0, 0)) := heap_alloc_new w _
  go_wp2_with fail
  generalize w.alloc (.cells #[.int .i64 s, .int .i64 b] 38) = wS at *
  go_cut [6] from 18 to 22 (fun o wx => ∃ a' c', o = .slice a' m c' ∧ Row .i64 (fun g => w.heap.size < g ∧ g < wx.heap.size) wx a' m R ∧ Below w.heap.size w wx ∧ wx.heap[w.heap.size]? = some (.cells #[.int .i64 s, .int .i64 b] 38 (0, 0)))
  case first =>
    have HB0 : Below w.heap.size w wS.drew := HB00.drew
    have kG0 : wS.drew.heap[w.heap.size]? = some (.cells #[.int .i64 s, .int .i64 b] 38 (0, 0)) := kG00
    have zG0 : w.heap.size < wS.drew.heap.size := (Array.getElem?_eq_some_iff.1 kG0).1
    obtain ⟨⟨g00, g10⟩, _, _⟩ := cells2g kG0
    refine wp_region_any (by kernel_rfl) ?_
    change wpAny _ _ _ _ _ _ _ (World.drew _)
    refine wpAny_take (i := 0) (v := .slice a n ca) rfl (by kernel_rfl) (by kernel_rfl) (by kernel_rfl) (fun _ _ _ h => h) (Or.inl ⟨rfl, fun W => by go_simp⟩) ?_
    refine wpAny_ready (rs := [1, 2]) (by kernel_rfl) (by simp) ?_
    refine AllReady.cons rfl (fun K hK => ?_) (AllReady.cons rfl (fun K hK => ?_) AllReady.nil)
    · go_simp
      refine (toEntryS_any _ _ _ es _ (HA.out.below HB0) hn2).mono ?_
      rintro e wa ⟨rfl, oE, hbwa, zE⟩
      have HBwa : Below w.heap.size w wa := HB0.trans (hbwa.mono HB0.size)
      have kGwa := (hbwa.block w.heap.size (by exact zG0)).trans kG0
      have zGwa : w.heap.size < wa.heap.size := (Array.getElem?_eq_some_iff.1 kGwa).1
      obtain ⟨⟨g0wa, g1wa⟩, _, _⟩ := cells2g kGwa
      clear hbwa zE
      go_simp
      refine hK _ _ ?_
      clear hK K
      refine wpAny_ready (rs := [2]) (by kernel_rfl) (by simp) ?_
      refine AllReady.cons rfl (fun K hK => ?_) AllReady.nil
      go_simp
      refine hK _ _ ?_
      clear hK K
      refine wpAny_ready (rs := [3]) (by kernel_rfl) (by simp) ?_
      refine AllReady.cons rfl (fun K hK => ?_) AllReady.nil
      go_simp
      refine (toGeometry_any s b _).mono ?_
      rintro e wb ⟨rfl, hbwb⟩
      have HBwb : Below w.heap.size w wb := HBwa.trans (hbwb.mono HBwa.size)
      have kGwb := (hbwb.block w.heap.size (by exact zGwa)).trans kGwa
      have zGwb : w.heap.size < wb.heap.size := (Array.getElem?_eq_some_iff.1 kGwb).1
      have oE := oE.below hbwb
      clear hbwb
      go_simp
      refine hK _ _ ?_
      clear hK K
      refine wpAny_ready (rs := [4]) (by kernel_rfl) (by simp) ?_
      refine AllReady.cons rfl (fun K hK => ?_) AllReady.nil
      go_simp
      refine (HSp.out _ _ _ oE.read hn2).mono ?_
      rintro e wz ⟨az, cz, rfl, rz, hbz⟩
      have HBz : Below w.heap.size w wz := HBwb.trans (hbz.mono HBwb.size)
      have kGz := (hbz.block w.heap.size (by exact zGwb)).trans kGwb
      have rz' := rz.mono (G' := fun g => w.heap.size < g ∧ g < wz.heap.size) (fun g hg => by omega)
      clear hbz rz oE
      go_simp
      refine hK _ _ ?_
      clear hK K
      refine wpAny_ready (rs := [5]) (by kernel_rfl) (by simp) ?_
      refine AllReady.cons rfl (fun K hK => ?_) AllReady.nil
      go_simp
      refine hK _ _ ?_
      clear hK K
      refine wpAny_done (by kernel_rfl) ?_ _
      go_wp2_with fail
      go_meet
      exact ⟨_, _, rfl, rz', HBz, kGz⟩
    · go_simp
      refine hK _ _ ?_
      clear hK K
      refine wpAny_ready (rs := [1]) (by kernel_rfl) (by simp) ?_
      refine AllReady.cons rfl (fun K hK => ?_) AllReady.nil
      go_simp
      refine (toEntryS_any _ _ _ es _ (HA.out.below HB0) hn2).mono ?_
      rintro e wa ⟨rfl, oE, hbwa, zE⟩
      have HBwa : Below w.heap.size w wa := HB0.trans (hbwa.mono HB0.size)
      have kGwa := (hbwa.block w.heap.size (by exact zG0)).trans kG0
      have zGwa : w.heap.size < wa.heap.size := (Array.getElem?_eq_some_iff.1 kGwa).1
      obtain ⟨⟨g0wa, g1wa⟩, _, _⟩ := cells2g kGwa
      clear hbwa zE
      go_simp
      refine hK _ _ ?_
      clear hK K
      refine wpAny_ready (rs := [3]) (by kernel_rfl) (by simp) ?_
      refine AllReady.cons rfl (fun K hK => ?_) AllReady.nil
      go_simp
      refine (toGeometry_any s b _).mono ?_
      rintro e wb ⟨rfl, hbwb⟩
      have HBwb : Below w.heap.size w wb := HBwa.trans (hbwb.mono HBwa.size)
      have kGwb := (hbwb.block w.heap.size (by exact zGwa)).trans kGwa
      have zGwb : w.heap.size < wb.heap.size := (Array.getElem?_eq_some_iff.1 kGwb).1
      have oE := oE.below hbwb
      clear hbwb
      go_simp
      refine hK _ _ ?_
      clear hK K
      refine wpAny_ready (rs := [4]) (by kernel_rfl) (by simp) ?_
      refine AllReady.cons rfl (fun K hK => ?_) AllReady.nil
      go_simp
      refine (HSp.out _ _ _ oE.read hn2).mono ?_
      rintro e wz ⟨az, cz, rfl, rz, hbz⟩
      have HBz : Below w.heap.size w wz := HBwb.trans (hbz.mono HBwb.size)
      have kGz := (hbz.block w.heap.size (by exact zGwb)).trans kGwb
      have rz' := rz.mono (G' := fun g => w.heap.size < g ∧ g < wz.heap.size) (fun g hg => by omega)
      clear hbz rz oE
      go_simp
      refine hK _ _ ?_
      clear hK K
      refine wpAny_ready (rs := [5]) (by kernel_rfl) (by simp) ?_
      refine AllReady.cons rfl (fun K hK => ?_) AllReady.nil
      go_simp
      refine hK _ _ ?_
      clear hK K
      refine wpAny_done (by kernel_rfl) ?_ _
      go_wp2_with fail
      go_meet
      exact ⟨_, _, rfl, rz', HBz, kGz⟩
  case rest =>
    obtain ⟨a1, c1, rfl, r1, HB1, kG1⟩ := hcut
    have HBX : Hid (Below w.heap.size w wc) := HB1
    have zG1 : w.heap.size < wc.heap.size := (Array.getElem?_eq_some_iff.1 kG1).1
    clear HB1 HB00 kG00
    have hE1 := HA.out.below HBX.out
    go_wp2_with fail
    refine (toEntryS_any _ _ _ es _ hE1 hn2).mono ?_
    rintro e w2 ⟨rfl, o2, hb2, z2⟩
    have HB2 : Hid (Below w.heap.size w w2) := HBX.out.trans (hb2.mono HBX.out.size)
    have kG2 := (hb2.block w.heap.size zG1).trans kG1
    have zG2 : w.heap.size < w2.heap.size := (Array.getElem?_eq_some_iff.1 kG2).1
    have r2 := r1.below hb2
    have o2' := o2.mono (G' := fun g => g = wc.heap.size) (fun g hg => hg)
    obtain ⟨⟨g0, g1⟩, _, _⟩ := cells2g kG2
    clear hb2 r1 kG1 HBX hE1 o2
    go_wp2_with fail
    refine (toGeometry_any s b _).mono ?_
    rintro e w3 ⟨rfl, hb3⟩
    have HB3 : Hid (Below w.heap.size w w3) := HB2.out.trans (hb3.mono HB2.out.size)
    have kG3 := (hb3.block w.heap.size zG2).trans kG2
    have zG3 : w.heap.size < w3.heap.size := (Array.getElem?_eq_some_iff.1 kG3).1
    have z3 := hb3.size
    have r3 := r2.below hb3
    have o3 := o2'.below hb3
    clear hb3 r2 kG2 HB2 o2' g0 g1
    go_wp2_with fail
    refine (HIm.out _ _ _ o3.read hn2).mono ?_
    rintro e w4 ⟨a4, c4, rfl, q4, hb4⟩
    have HB4 : Hid (Below w.heap.size w w4) := HB3.out.trans (hb4.mono HB3.out.size)
    have kG4 := (hb4.block w.heap.size zG3).trans kG3
    have zG4 : w.heap.size < w4.heap.size := (Array.getElem?_eq_some_iff.1 kG4).1
    have z4 := hb4.size
    have r4 := r3.below hb4
    have o4 := o3.below hb4
    clear hb4 r3 kG3 HB3 o3
    go_wp2_with fail
    refine (eqInt64S_any _ _ _ _ _ _ R R _ q4.read r4.read (by omega) (by omega)).mono ?_
    rintro e w5 ⟨rfl, d5, rfl⟩
    rw [show decide (R = R) = true from by simp]
    have HB5 : Hid (Below w.heap.size w (w4.drewN d5)) := below_drewN HB4.out d5
    have kG5 : (w4.drewN d5).heap[w.heap.size]? = some (.cells #[.int .i64 s, .int .i64 b] 38 (0, 0)) := kG4
    have r5 : Row .i64 (fun g => w.heap.size < g ∧ g < wc.heap.size) (w4.drewN d5) a1 m R := r4
    have q5 : Row .i64 (fun g => w3.heap.size ≤ g ∧ g < w4.heap.size) (w4.drewN d5) a4 m R := q4
    have o5 : EOwn (fun g => g = wc.heap.size) (w4.drewN d5) (some ⟨wc.heap.size, 0, none⟩) n es := o4
    have s5 : w4.heap.size ≤ (w4.drewN d5).heap.size := Nat.le_refl _
    clear r4 q4 o4 kG4 HB4
    generalize w4.drewN d5 = w6 at *
    have hE6 := HA.out.below HB5.out
    go_wp2_with fail
    refine (toEntryS_any _ _ _ es _ hE6 hn2).mono ?_
    rintro e w7 ⟨rfl, o7, hb7, z7⟩
    have HB7 : Hid (Below w.heap.size w w7) := HB5.out.trans (hb7.mono HB5.out.size)
    have kG7 := (hb7.block w.heap.size (by omega)).trans kG5
    have r7 := r5.below hb7
    have q7 := q5.below hb7
    have p7 := o5.below hb7
    clear hb7 r5 q5 o5 kG5 HB5 hE6
    go_wp2_with fail
    refine (eqEntryS_any _ _ _ _ _ _ es es _ p7.read o7.read hn2 hn2).mono ?_
    rintro e w8 ⟨rfl, hb8⟩
    rw [show decide (es = es) = true from by simp]
    have HB8 : Hid (Below w.heap.size w w8) := HB7.out.trans (hb8.mono HB7.out.size)
    have kG8 := (hb8.block w.heap.size (by omega)).trans kG7
    have z8 := hb8.size
    have r8 := r7.below hb8
    have q8 := q7.below hb8
    have p8 := p7.below hb8
    clear hb8 r7 q7 p7 o7 kG7 HB7
    go_wp2_with fail
    refine (markEntryS_any _ _ _ _ _ es _ p8 hn2 (by omega) (by omega)).mono ?_
    rintro e w9 ⟨es2, rfl, o9, _, hk9⟩
    have HB9 : Hid (Below w.heap.size w w9) := HB8.out.trans (hk9.below HB8.out.size (fun g hg => by omega))
    have kG9 := (hk9.block w.heap.size (by omega) (by omega)).trans kG8
    have z9 := hk9.size
    have r9 := r8.kept hk9 (fun g h1 h2 => by omega)
    have q9 := q8.kept hk9 (fun g h1 h2 => by omega)
    have t1 : ¬ (1 + 2 * (n : Int)) < 0 := by omega
    clear hk9 r8 q8 p8 o9 kG8 HB8
    go_wp2_with fail
    refine (eqInt64S_any _ _ _ _ _ _ R R _ q9.read r9.read (by omega) (by omega)).mono ?_
    rintro e wa ⟨rfl, da, rfl⟩
    rw [show decide (R = R) = true from by simp]
    have HBa : Hid (Below w.heap.size w (w9.drewN da)) := below_drewN HB9.out da
    have kGa : (w9.drewN da).heap[w.heap.size]? = some (.cells #[.int .i64 s, .int .i64 b] 38 (0, 0)) := kG9
    have ra : Row .i64 (fun g => w.heap.size < g ∧ g < wc.heap.size) (w9.drewN da) a1 m R := r9
    have qa : Row .i64 (fun g => w3.heap.size ≤ g ∧ g < w4.heap.size) (w9.drewN da) a4 m R := q9
    have sa : w9.heap.size ≤ (w9.drewN da).heap.size := Nat.le_refl _
    clear r9 q9 kG9 HB9
    generalize w9.drewN da = wb at *
    go_wp2_with fail
    refine (markInt64S_any _ _ _ _ _ R _ qa (by omega) (by omega) (by omega)).mono ?_
    rintro e wd ⟨rfl, qd, hkd⟩
    have HBd : Hid (Below w.heap.size w wd) := HBa.out.trans (hkd.below HBa.out.size (fun g hg => by omega))
    have kGd := (hkd.block w.heap.size (by omega) (by omega)).trans kGa
    have zd := hkd.size
    have rd := ra.kept hkd (fun g h1 h2 => by omega)
    clear hkd ra qa kGa HBa
    go_wp2_with fail
    refine (heldInt64S_any _ _ _ _ _ qd.read (by omega) (by omega) (by omega)).mono ?_
    rintro e we ⟨rfl, hw⟩
    have hw' := hw.symm
    subst hw'
    have t2 : ¬ (1 + (m : Int)) < 0 := by omega
    have t3 : ((1 + (m : Int)) != (1 + (m : Int))) = false := by simp
    clear qd
    go_wp2_with fail
    go_cut [12] from 60 to 64 (fun o wx => ∃ a' c', o = .slice a' m c' ∧ Row .i64 (fun g => w.heap.size < g ∧ g < wx.heap.size) wx a' m R ∧ Below w.heap.size w wx ∧ Row .i64 (fun g => w.heap.size < g ∧ g < wc.heap.size) wx a1 m R)
    case first =>
      have HB0 : Below w.heap.size w wd.drew := HBd.out.drew
      have kG0 : wd.drew.heap[w.heap.size]? = some (.cells #[.int .i64 s, .int .i64 b] 38 (0, 0)) := kGd
      have zG0 : w.heap.size < wd.drew.heap.size := (Array.getElem?_eq_some_iff.1 kG0).1
      have rr : Row .i64 (fun g => w.heap.size < g ∧ g < wc.heap.size) wd.drew a1 m R := rd
      obtain ⟨⟨g00, g10⟩, _, _⟩ := cells2g kG0
      refine wp_region_any (by kernel_rfl) ?_
      change wpAny _ _ _ _ _ _ _ (World.drew _)
      refine wpAny_take (i := 0) (v := .slice a n ca) rfl (by kernel_rfl) (by kernel_rfl) (by kernel_rfl) (fun _ _ _ h => h) (Or.inl ⟨rfl, fun W => by go_simp⟩) ?_
      refine wpAny_ready (rs := [1, 2]) (by kernel_rfl) (by simp) ?_
      refine AllReady.cons rfl (fun K hK => ?_) (AllReady.cons rfl (fun K hK => ?_) AllReady.nil)
      · go_simp
        refine (toEntryS_any _ _ _ es _ (HA.out.below HB0) hn2).mono ?_
        rintro e wa ⟨rfl, oE, hbwa, zE⟩
        have HBwa : Below w.heap.size w wa := HB0.trans (hbwa.mono HB0.size)
        have kGwa := (hbwa.block w.heap.size (by exact zG0)).trans kG0
        have zGwa : w.heap.size < wa.heap.size := (Array.getElem?_eq_some_iff.1 kGwa).1
        obtain ⟨⟨g0wa, g1wa⟩, _, _⟩ := cells2g kGwa
        have rr := rr.below hbwa
        clear hbwa zE
        go_simp
        refine hK _ _ ?_
        clear hK K
        refine wpAny_ready (rs := [2]) (by kernel_rfl) (by simp) ?_
        refine AllReady.cons rfl (fun K hK => ?_) AllReady.nil
        go_simp
        refine hK _ _ ?_
        clear hK K
        refine wpAny_ready (rs := [3]) (by kernel_rfl) (by simp) ?_
        refine AllReady.cons rfl (fun K hK => ?_) AllReady.nil
        go_simp
        refine (toGeometry_any s b _).mono ?_
        rintro e wb ⟨rfl, hbwb⟩
        have HBwb : Below w.heap.size w wb := HBwa.trans (hbwb.mono HBwa.size)
        have kGwb := (hbwb.block w.heap.size (by exact zGwa)).trans kGwa
        have zGwb : w.heap.size < wb.heap.size := (Array.getElem?_eq_some_iff.1 kGwb).1
        have oE := oE.below hbwb
        have rr := rr.below hbwb
        clear hbwb
        go_simp
        refine hK _ _ ?_
        clear hK K
        refine wpAny_ready (rs := [4]) (by kernel_rfl) (by simp) ?_
        refine AllReady.cons rfl (fun K hK => ?_) AllReady.nil
        go_simp
        refine (HIm.out _ _ _ oE.read hn2).mono ?_
        rintro e wz ⟨az, cz, rfl, rz, hbz⟩
        have HBz : Below w.heap.size w wz := HBwb.trans (hbz.mono HBwb.size)
        have kGz := (hbz.block w.heap.size (by exact zGwb)).trans kGwb
        have rz' := rz.mono (G' := fun g => w.heap.size < g ∧ g < wz.heap.size) (fun g hg => by omega)
        have rr := rr.below hbz
        clear hbz rz oE
        go_simp
        refine hK _ _ ?_
        clear hK K
        refine wpAny_ready (rs := [5]) (by kernel_rfl) (by simp) ?_
        refine AllReady.cons rfl (fun K hK => ?_) AllReady.nil
        go_simp
        refine hK _ _ ?_
        clear hK K
        refine wpAny_done (by kernel_rfl) ?_ _
        go_wp2_with fail
        go_meet
        exact ⟨_, _, rfl, rz', HBz, rr⟩
      · go_simp
        refine hK _ _ ?_
        clear hK K
        refine wpAny_ready (rs := [1]) (by kernel_rfl) (by simp) ?_
        refine AllReady.cons rfl (fun K hK => ?_) AllReady.nil
        go_simp
        refine (toEntryS_any _ _ _ es _ (HA.out.below HB0) hn2).mono ?_
        rintro e wa ⟨rfl, oE, hbwa, zE⟩
        have HBwa : Below w.heap.size w wa := HB0.trans (hbwa.mono HB0.size)
        have kGwa := (hbwa.block w.heap.size (by exact zG0)).trans kG0
        have zGwa : w.heap.size < wa.heap.size := (Array.getElem?_eq_some_iff.1 kGwa).1
        obtain ⟨⟨g0wa, g1wa⟩, _, _⟩ := cells2g kGwa
        have rr := rr.below hbwa
        clear hbwa zE
        go_simp
        refine hK _ _ ?_
        clear hK K
        refine wpAny_ready (rs := [3]) (by kernel_rfl) (by simp) ?_
        refine AllReady.cons rfl (fun K hK => ?_) AllReady.nil
        go_simp
        refine (toGeometry_any s b _).mono ?_
        rintro e wb ⟨rfl, hbwb⟩
        have HBwb : Below w.heap.size w wb := HBwa.trans (hbwb.mono HBwa.size)
        have kGwb := (hbwb.block w.heap.size (by exact zGwa)).trans kGwa
        have zGwb : w.heap.size < wb.heap.size := (Array.getElem?_eq_some_iff.1 kGwb).1
        have oE := oE.below hbwb
        have rr := rr.below hbwb
        clear hbwb
        go_simp
        refine hK _ _ ?_
        clear hK K
        refine wpAny_ready (rs := [4]) (by kernel_rfl) (by simp) ?_
        refine AllReady.cons rfl (fun K hK => ?_) AllReady.nil
        go_simp
        refine (HIm.out _ _ _ oE.read hn2).mono ?_
        rintro e wz ⟨az, cz, rfl, rz, hbz⟩
        have HBz : Below w.heap.size w wz := HBwb.trans (hbz.mono HBwb.size)
        have kGz := (hbz.block w.heap.size (by exact zGwb)).trans kGwb
        have rz' := rz.mono (G' := fun g => w.heap.size < g ∧ g < wz.heap.size) (fun g hg => by omega)
        have rr := rr.below hbz
        clear hbz rz oE
        go_simp
        refine hK _ _ ?_
        clear hK K
        refine wpAny_ready (rs := [5]) (by kernel_rfl) (by simp) ?_
        refine AllReady.cons rfl (fun K hK => ?_) AllReady.nil
        go_simp
        refine hK _ _ ?_
        clear hK K
        refine wpAny_done (by kernel_rfl) ?_ _
        go_wp2_with fail
        go_meet
        exact ⟨_, _, rfl, rz', HBz, rr⟩
    case rest =>
      obtain ⟨a6, c6, rfl, r6, HB6, r7⟩ := hcut
      have HBY : Hid (Below w.heap.size w wc) := HB6
      clear HB6
      go_wp2_with fail
      refine (eqInt64S_any _ _ _ _ _ _ R R _ r6.read r7.read (by omega) (by omega)).mono ?_
      rintro e wf ⟨rfl, df, rfl⟩
      rw [show decide (R = R) = true from by simp]
      clear r6 r7
      go_wp2
      go_ret
      exact ⟨rfl, below_drewN HBY.out _⟩
end Go.Proofs.Ytkkammbfomiofac
