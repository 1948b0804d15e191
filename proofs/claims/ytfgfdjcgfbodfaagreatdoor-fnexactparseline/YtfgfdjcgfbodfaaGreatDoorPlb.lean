/-
  FnExactParseLine: the law's walk, whole.
-/
import Derived.Test.YtfgfdjcgfbodfaaGreatDoorPla
namespace Go.Proofs.YtfgfdjcgfbodfaaGreatDoor
open Go.RowKit
set_option linter.unusedSimpArgs false
set_option linter.unusedVariables false

theorem Row.drewI {k : IntKind} {G : Nat → Prop} {w : World} {a : Option Addr} {n : Nat} {xs : List Int} (h : Row k G w a n xs) (d : Nat) : Row k G (w.drewN d) a n xs := h
set_option maxHeartbeats 8000000 in
set_option maxRecDepth 100000 in
theorem law_parseLine (a : Option Addr) (n ca : Nat) (xs : List Int) (mx : Int) (w : World) (ha : IRow .u8 w a n xs) (hB : ∀ x ∈ xs, 0 ≤ x ∧ x ≤ 255) (hn : (n : Int) ≤ 9223372036854775807) (hmx : w.cell? ⟨0, 0, none⟩ = some (.int .i64 mx)) :
    Calls Tryz.prog 3 #[.slice a n ca] w fun e w' => e = .returned (.bool true) ∧ Below w.heap.size w w' := by
  by_cases hbig : 1048576 < n
  · clear hmx
    go_enter Tryz.func3, Tryz.ntmps3
    go_wp2
    go_ret
    exact ⟨rfl, Below.refl _ _⟩
  have hn2 : n ≤ 2097152 := by omega
  have HA : Hid (IRow .u8 w a n xs) := ha
  have HX : Hid (∀ v, Below w.heap.size w v → v.cell? ⟨0, 0, none⟩ = some (.int .i64 mx)) := fun v hv => (hv.cell (World.block_lt_of_cell? w _ hmx)).trans hmx
  have hl := line_len (u8L xs)
  have hS : ∀ (v : World) (hv : IRow .u8 v (some ⟨w.heap.size, 0, none⟩) n xs), Calls Tryz.prog 4 #[.slice (some ⟨w.heap.size, 0, none⟩) n n] v fun e w' => ∃ a' c', e = .returned (.agg #[.int .i64 (lineOf (u8L xs)).k, .int .i64 (lineOf (u8L xs)).ck, .string (lineOf (u8L xs)).nm, .string (lineOf (u8L xs)).dt, .int .i64 (lineOf (u8L xs)).sz, .slice a' (lineOf (u8L xs)).ns.length c']) ∧ Row .i64 (fun g => v.heap.size ≤ g ∧ g < w'.heap.size) w' a' (lineOf (u8L xs)).ns.length (lineOf (u8L xs)).ns ∧ Below v.heap.size v w' := fun v hv => (parse_spec _ n n _ v (uhead_of hv hB) (by omega) (Nat.le_refl _) (by omega)).mono fun _ _ h => lans_row h
  have hI : ∀ (g : Nat) (v : World) (hv : IRow .u8 v (some ⟨g, 0, none⟩) n xs) (hw : Below w.heap.size w v), Calls Tryz.prog 6 #[.slice (some ⟨g, 0, none⟩) n n] v fun e w' => ∃ a' c', e = .returned (.agg #[.int .i64 (lineOf (u8L xs)).k, .int .i64 (lineOf (u8L xs)).ck, .string (lineOf (u8L xs)).nm, .string (lineOf (u8L xs)).dt, .int .i64 (lineOf (u8L xs)).sz, .slice a' (lineOf (u8L xs)).ns.length c']) ∧ Row .i64 (fun g => v.heap.size ≤ g ∧ g < w'.heap.size) w' a' (lineOf (u8L xs)).ns.length (lineOf (u8L xs)).ns ∧ Below v.heap.size v w' := fun g v hv hw => (impl_parse g n n _ mx v (uhead_of hv hB) (by omega) (HX.out v hw)).mono fun _ _ h => lans_row h
  clear ha hB hmx HX
  generalize lineOf (u8L xs) = ln at *
  obtain ⟨K, C, N, D, Z, es⟩ := ln
  simp only at hS hI hl
  have HM : Hid (es.length = es.length) := rfl
  generalize hm : es.length = m at *
  have HL : Hid (m ≤ 400) := hl
  clear hl hm HM
  go_enter Tryz.func3, Tryz.ntmps3
  go_wp2_with fail
  refine (toByteS_any _ _ _ xs _ HA.out hn2).mono ?_
  rintro e w1 ⟨rfl, r1, hb1, z1⟩
  have r1' := r1.read
  clear r1
  go_wp2_with fail
  refine (hS _ r1').mono ?_
  rintro e w2 ⟨sa, sc, rfl, o2, hb2⟩
  have HB2 : Hid (Below w.heap.size w w2) := hb1.trans (hb2.mono (by omega))
  have z2 := hb2.size
  have hA2 : ∀ o, IRow .u8 (w2.alloc o) a n xs := fun o => HA.out.below (HB2.out.alloc HB2.out.size o)
  have o2' : Row .i64 (fun g => w.heap.size < g ∧ g < w2.heap.size) w2 sa m es := o2.mono (fun g hg => by omega)
  have zz : w.heap.size < w2.heap.size := by omega
  clear hb1 hb2 r1' z1 o2 z2 hS
  go_wp2_with fail
  refine (toByteS_any _ _ _ xs _ (hA2 _) hn2).mono ?_
  rintro e w3 ⟨rfl, r3, hb3, z3⟩
  have hb3' : Below w2.heap.size w2 w3 := ((Below.refl _ _).alloc (Nat.le_refl _) _).trans (hb3.mono (by simp))
  have kw := (hb3.block w2.heap.size (by simp)).trans (heap_alloc_new w2 _)
  have HB3 : Hid (Below w.heap.size w w3) := HB2.out.trans (hb3'.mono HB2.out.size)
  have es1 : ∀ o, (w2.alloc o).heap.size = w2.heap.size + 1 := fun _ => by simp
  rw [es1] at r3 z3 ⊢
  have o3 := o2'.below hb3'
  clear hb3 hb3' hA2 es1 o2'
  go_wp2_with fail
  refine (hI _ _ r3.read HB3.out).mono ?_
  rintro e w4 ⟨ai, ci, rfl, o4, hb4⟩
  have kw4 := (hb4.block w2.heap.size (by omega)).trans kw
  have HB4 : Hid (Below w.heap.size w w4) := HB3.out.trans (hb4.mono HB3.out.size)
  have z4 := hb4.size
  have r4 := r3.below hb4
  have o34 := o3.below hb4
  have kx : ∀ o, (w4.alloc o).heap[w2.heap.size]? = some (.cells #[.int .i64 K, .int .i64 C, .string N, .string D, .int .i64 Z, .slice sa m sc] 27 (0, 0)) := fun o => (heap_alloc_old w4 o (by omega)).trans kw4
  have x0 : ∀ o, (w4.alloc o).cell? ⟨w2.heap.size, 0, none⟩ = some (.int .i64 K) := fun o => (six_of (kx o)).1.1
  have x1 : ∀ o, (w4.alloc o).cell? ⟨w2.heap.size, 1, none⟩ = some (.int .i64 C) := fun o => (six_of (kx o)).1.2.1
  have x2 : ∀ o, (w4.alloc o).cell? ⟨w2.heap.size, 2, none⟩ = some (.string N) := fun o => (six_of (kx o)).1.2.2.1
  have x3 : ∀ o, (w4.alloc o).cell? ⟨w2.heap.size, 3, none⟩ = some (.string D) := fun o => (six_of (kx o)).1.2.2.2.1
  have x4 : ∀ o, (w4.alloc o).cell? ⟨w2.heap.size, 4, none⟩ = some (.int .i64 Z) := fun o => (six_of (kx o)).1.2.2.2.2.1
  have x5 : ∀ o, (w4.alloc o).cell? ⟨w2.heap.size, 5, none⟩ = some (.slice sa m sc) := fun o => (six_of (kx o)).1.2.2.2.2.2
  have ha4 : ∀ o, Below w4.heap.size w4 (w4.alloc o) := fun o => (Below.refl _ _).alloc (Nat.le_refl _) o
  clear hb4 kw r3 kx o3
  go_wp2_with fail
  refine (eqLine_same K C N D Z _ _ _ _ _ es _ (o4.below (ha4 _)).read (o34.below (ha4 _)).read (by have := HL.out; omega)).mono ?_
  rintro e w5 ⟨rfl, hb5⟩
  have hb5' : Below w4.heap.size w4 w5 := (ha4 _).trans (hb5.mono (by simp))
  have HB5 : Hid (Below w.heap.size w w5) := HB4.out.trans (hb5'.mono HB4.out.size)
  have z5 := hb5'.size
  have k5 := (hb5'.block w2.heap.size (by omega)).trans kw4
  have j5 := (hb5.block w4.heap.size (by simp)).trans (heap_alloc_new w4 _)
  have r5 := r4.below hb5'
  have o5 := o4.below hb5'
  have p5 := o34.below hb5'
  have zj := (Array.getElem?_eq_some_iff.1 j5).1
  clear hb5 hb5' x0 x1 x2 x3 x4 x5 r4 o4 o34 kw4 HB4 ha4
  go_wp2_with fail
  refine (toByteS_any _ _ _ xs _ (HA.out.below HB5.out) hn2).mono ?_
  rintro e w6 ⟨rfl, r6, hb6, z6⟩
  have HB6 : Hid (Below w.heap.size w w6) := HB5.out.trans (hb6.mono HB5.out.size)
  have k6 := (hb6.block w2.heap.size (by omega)).trans k5
  have j6 := (hb6.block w4.heap.size (by omega)).trans j5
  have q6 := r5.below hb6
  have o6 := o5.below hb6
  have p6 := p5.below hb6
  clear hb6 r5 k5 j5 o5 p5
  go_wp2_with fail
  refine (eqByteS_any _ _ _ _ _ _ xs xs _ q6.read r6.read hn2 hn2).mono ?_
  rintro e w7 ⟨rfl, d7, rfl⟩
  rw [show decide (xs = xs) = true from by simp]
  go_wp2_with fail
  refine (markByteS_any _ _ _ _ _ _ _ (q6.drewI d7) hn2 (by omega) (by omega)).mono ?_
  rintro e w8 ⟨rfl, r8, hk8⟩
  have hk8' : Kept (fun g => g = w2.heap.size + 1) w6 w8 := (Kept.drewN w6 d7 _).trans hk8
  have HB8 : Hid (Below w.heap.size w w8) := HB6.out.trans (hk8'.below HB6.out.size (fun g hg => by omega))
  have z8 := hk8'.size
  have k8 := (hk8'.block w2.heap.size (by omega) (by omega)).trans k6
  have j8 := (hk8'.block w4.heap.size (by omega) (by omega)).trans j6
  have o8 := o6.kept hk8' (fun g h1 h2 => by omega)
  have p8 := p6.kept hk8' (fun g h1 h2 => by omega)
  have t1 : ¬ (1 + (n : Int)) < 0 := by omega
  obtain ⟨⟨x0, x1, x2, x3, x4, x5⟩, _, _, _, _, _, _⟩ := six_of k8
  obtain ⟨⟨y0, y1, y2, y3, y4, y5⟩, _, _, _, _, _, _⟩ := six_of j8
  clear hk8 hk8' k6 j6 o6 p6 q6 r6 r8
  go_wp2_with fail
  refine (eqLine_same K C N D Z _ _ _ _ _ es _ o8.read p8.read (by have := HL.out; omega)).mono ?_
  rintro e w9 ⟨rfl, hb9⟩
  have HB9 : Hid (Below w.heap.size w w9) := HB8.out.trans (hb9.mono HB8.out.size)
  have z9 := hb9.size
  have k9 := (hb9.block w2.heap.size (by omega)).trans k8
  have j9 := (hb9.block w4.heap.size (by omega)).trans j8
  have o9 := o8.below hb9
  have p9 := p8.below hb9
  clear hb9 x0 x1 x2 x3 x4 x5 y0 y1 y2 y3 y4 y5 k8 j8 o8 p8 HB8
  obtain ⟨⟨x0, x1, x2, x3, x4, x5⟩, _, _, _, _, _, _⟩ := six_of k9
  obtain ⟨⟨y0, y1, y2, y3, y4, y5⟩, _, _, _, _, _, _⟩ := six_of j9
  go_wp2_with fail
  refine (markLine_any K C N D Z _ _ _ _ _ es _ o9 (by have := HL.out; omega) (by omega) (by omega)).mono ?_
  rintro e wa ⟨rfl, oa, hka⟩
  have HBa : Hid (Below w.heap.size w wa) := HB9.out.trans (hka.below HB9.out.size (fun g hg => by omega))
  have za := hka.size
  have ka := (hka.block w2.heap.size (by omega) (by omega)).trans k9
  have ja := (hka.block w4.heap.size (by omega) (by omega)).trans j9
  have pa := p9.kept hka (fun g h1 h2 => by omega)
  clear hka x0 x1 x2 x3 x4 x5 y0 y1 y2 y3 y4 y5 k9 j9 o9 p9 HB9
  obtain ⟨⟨x0, x1, x2, x3, x4, x5⟩, _, _, _, _, _, _⟩ := six_of ka
  obtain ⟨⟨y0, y1, y2, y3, y4, y5⟩, _, _, _, _, _, _⟩ := six_of ja
  go_wp2_with fail
  refine (heldLine_any K C N D Z _ _ _ _ _ oa.read (by have := HL.out; omega) (by omega) (by omega)).mono ?_
  rintro e wb ⟨rfl, hbb⟩
  have HBb : Hid (Below w.heap.size w wb) := HBa.out.trans (hbb.mono HBa.out.size)
  have zb := hbb.size
  have kb := (hbb.block w2.heap.size (by omega)).trans ka
  have pb := pa.below hbb
  have t2 : ¬ (1 + (m : Int)) < 0 := by omega
  have t3 : ((1 + (m : Int)) != (1 + (m : Int))) = false := by simp
  clear hbb x0 x1 x2 x3 x4 x5 y0 y1 y2 y3 y4 y5 ka ja oa pa HBa
  go_wp2_with fail
  refine (toByteS_any _ _ _ xs _ (HA.out.below HBb.out) hn2).mono ?_
  rintro e wc ⟨rfl, rc, hbc, zc⟩
  have HBc : Hid (Below w.heap.size w wc) := HBb.out.trans (hbc.mono HBb.out.size)
  have kc := (hbc.block w2.heap.size (by omega)).trans kb
  have pc := pb.below hbc
  clear hbc kb pb HBb
  go_wp2_with fail
  refine (hI _ _ rc.read HBc.out).mono ?_
  rintro e wd ⟨ad, cd, rfl, od, hbd⟩
  have HBd : Hid (Below w.heap.size w wd) := HBc.out.trans (hbd.mono HBc.out.size)
  have zd := hbd.size
  have kd := (hbd.block w2.heap.size (by omega)).trans kc
  have pd := pc.below hbd
  have had : ∀ o, Below wd.heap.size wd (wd.alloc o) := fun o => (Below.refl _ _).alloc (Nat.le_refl _) o
  have kx : ∀ o, (wd.alloc o).heap[w2.heap.size]? = some (.cells #[.int .i64 K, .int .i64 C, .string N, .string D, .int .i64 Z, .slice sa m sc] 27 (0, 0)) := fun o => (heap_alloc_old wd o (by omega)).trans kd
  have x0 : ∀ o, (wd.alloc o).cell? ⟨w2.heap.size, 0, none⟩ = some (.int .i64 K) := fun o => (six_of (kx o)).1.1
  have x1 : ∀ o, (wd.alloc o).cell? ⟨w2.heap.size, 1, none⟩ = some (.int .i64 C) := fun o => (six_of (kx o)).1.2.1
  have x2 : ∀ o, (wd.alloc o).cell? ⟨w2.heap.size, 2, none⟩ = some (.string N) := fun o => (six_of (kx o)).1.2.2.1
  have x3 : ∀ o, (wd.alloc o).cell? ⟨w2.heap.size, 3, none⟩ = some (.string D) := fun o => (six_of (kx o)).1.2.2.2.1
  have x4 : ∀ o, (wd.alloc o).cell? ⟨w2.heap.size, 4, none⟩ = some (.int .i64 Z) := fun o => (six_of (kx o)).1.2.2.2.2.1
  have x5 : ∀ o, (wd.alloc o).cell? ⟨w2.heap.size, 5, none⟩ = some (.slice sa m sc) := fun o => (six_of (kx o)).1.2.2.2.2.2
  clear hbd kc pc rc kx HBc
  go_wp2_with fail
  refine (eqLine_same K C N D Z _ _ _ _ _ es _ (od.below (had _)).read (pd.below (had _)).read (by have := HL.out; omega)).mono ?_
  rintro e we ⟨rfl, hbe⟩
  have HBe : Hid (Below w.heap.size w we) := (HBd.out.trans ((had _).mono HBd.out.size)).trans (hbe.mono (by have := HBd.out.size; simp; omega))
  clear hbe x0 x1 x2 x3 x4 x5 had pd od
  go_wp2
  go_ret
  exact ⟨rfl, HBe.out⟩
end Go.Proofs.YtfgfdjcgfbodfaaGreatDoor
