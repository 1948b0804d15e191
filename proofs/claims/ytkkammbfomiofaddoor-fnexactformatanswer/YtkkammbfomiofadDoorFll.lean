/-
  FnExactFormatAnswer: the law's walk.
-/
import Derived.Test.YtkkammbfomiofadDoorFla
import Derived.Deep.RegionHeld
namespace Go.Proofs.YtkkammbfomiofadDoor
open Go.RowKit
set_option linter.unusedSimpArgs false
set_option linter.unusedVariables false

theorem two_blk (w : World) (o o' : Obj) : ((w.alloc o).alloc o').heap[w.heap.size]? = some o ∧ ((w.alloc o).alloc o').heap[w.heap.size + 1]? = some o' ∧ ((w.alloc o).alloc o').heap.size = w.heap.size + 1 + 1 ∧ Below w.heap.size w ((w.alloc o).alloc o') :=
  ⟨(heap_alloc_old _ _ (by simp)).trans (heap_alloc_new w o), alloc_second w o o', by simp, ((Below.refl _ w).alloc (Nat.le_refl _) o).alloc (by simp) o'⟩
theorem four_at {w : World} {g : Nat} {x0 x1 x2 x3 : Value} {t : TypeId} (k : w.heap[g]? = some (.cells #[x0, x1, x2, x3] t (0, 0))) :
    (w.cell? ⟨g, 0, none⟩ = some x0 ∧ w.cell? ⟨g, 1, none⟩ = some x1 ∧ w.cell? ⟨g, 2, none⟩ = some x2 ∧ w.cell? ⟨g, 3, none⟩ = some x3) ∧ w.frozen? ⟨g, 0, none⟩ = false ∧ w.frozen? ⟨g, 1, none⟩ = false ∧ w.frozen? ⟨g, 2, none⟩ = false ∧ w.frozen? ⟨g, 3, none⟩ = false := by
  refine ⟨⟨?_, ?_, ?_, ?_⟩, ?_, ?_, ?_, ?_⟩
  all_goals first | (rw [cell_of_row w g _ _ _ _ k]; rfl) | (simp [World.frozen?, k])

set_option maxHeartbeats 8000000 in
set_option maxRecDepth 100000 in
theorem law_formatAnswer (kind size code num s0 s1 s2 s3 s4 : Int) (nm cd d : ByteArray) (a : Option Addr) (n ca : Nat) (ss : List ByteArray) (w : World) (ha : SRow w a n ss) (hz : ∀ i, i < n → (sAt ss i).size ≤ 9223372036854775807) (hn : (n : Int) ≤ 9223372036854775807)
    (hnm : nm.size ≤ 9223372036854775807) (hcd : cd.size ≤ 9223372036854775807) (hd : d.size ≤ 9223372036854775807) (h1 : I64 code) (h2 : I64 num) (k0 : I64 s0) (k1 : I64 s1) (k2 : I64 s2) (k3 : I64 s3) (k4 : I64 s4) (htab : Tab w) :
    Calls Tryd.prog 3 #[.agg #[.int .i64 kind, .string nm, .string cd, .int .i64 size], .agg #[.int .i64 code, .string d, .slice a n ca, .int .i64 num, .int .i64 s0, .int .i64 s1, .int .i64 s2, .int .i64 s3, .int .i64 s4]] w fun e w' => e = .returned (.bool true) ∧ Below w.heap.size w w' := by
  have HA := Lib.hid ha
  have HZ := Lib.hid hz
  have HT := Lib.hid htab
  have HR := Lib.hid (show I64 code ∧ I64 num ∧ I64 s0 ∧ I64 s1 ∧ I64 s2 ∧ I64 s3 ∧ I64 s4 from ⟨h1, h2, k0, k1, k2, k3, k4⟩)
  clear ha hz htab h1 h2 k0 k1 k2 k3 k4
  go_enter Tryd.func3, Tryd.ntmps3
  go_wp2_with fail
  obtain ⟨b0, b1, bz, hB0⟩ := two_blk w (.cells #[.int .i64 kind, .string nm, .string cd, .int .i64 size] 23) (.cells #[.int .i64 code, .string d, .slice a n ca, .int .i64 num, .int .i64 s0, .int .i64 s1, .int .i64 s2, .int .i64 s3, .int .i64 s4] 28)
  refine (szCall_any kind size nm cd _ _ hnm hcd (by omega) (by omega)).mono ?_
  rintro e w1 ⟨r1, rfl, hr0, hr1, hb1⟩
  have kC := (hb1.block w.heap.size (by omega)).trans b0
  have kA := (hb1.block (w.heap.size + 1) (by omega)).trans b1
  have HB := Lib.hid (hB0.trans (hb1.mono (by omega)))
  have zz : w.heap.size + 1 < w1.heap.size := (Array.getElem?_eq_some_iff.1 kA).1
  clear b0 b1 bz hB0 hb1
  obtain ⟨⟨c0, c1, c2, c3⟩, _, _, _, _⟩ := four_at kC
  obtain ⟨⟨a0, a1, a2, a3, a4, a5, a6, a7, a8⟩, _, _, _, _, _, _, _, _, _⟩ := nine_of kA
  by_cases hng : r1 < 0
  · go_wp2
    go_ret
    exact ⟨rfl, HB.out⟩
  go_wp2_with fail
  refine (szAnswer_any code num s0 s1 s2 s3 s4 d a n ca ss _ _ (HA.out.below HB.out) HZ.out hn hd (by omega) (by omega)).mono ?_
  rintro e w2 ⟨r2, rfl, hr2, hb2⟩
  have kC := (hb2.block w.heap.size (by first | omega | (simp; omega))).trans kC
  have kA := (hb2.block (w.heap.size + 1) (by first | omega | (simp; omega))).trans kA
  have HB := Lib.hid (HB.out.trans (hb2.mono (by have := HB.out.size; first | omega | (simp; omega))))
  have zz : w.heap.size + 1 < w2.heap.size := (Array.getElem?_eq_some_iff.1 kA).1
  have HR2 := Lib.hid hr2
  clear hr2
  clear hb2
  clear c0 c1 c2 c3 a0 a1 a2 a3 a4 a5 a6 a7 a8
  by_cases hng2 : r2 < 0
  · obtain ⟨⟨c0, c1, c2, c3⟩, _, _, _, _⟩ := four_at kC
    obtain ⟨⟨a0, a1, a2, a3, a4, a5, a6, a7, a8⟩, _, _, _, _, _, _, _, _, _⟩ := nine_of kA
    go_wp2
    go_ret
    exact ⟨rfl, HB.out⟩
  obtain ⟨hd2, hnt⟩ := HR2.out (by omega)
  clear HR2
  have hn2 : n ≤ 1048576 := by omega
  have ht2 : totS ss ≤ 1048576 := by omega
  go_wp2_with fail
  refine wp_region_held_drew (S := (fun W : World => W.heap[w.heap.size]? = some (.cells #[.int .i64 kind, .string nm, .string cd, .int .i64 size] 23 (0, 0)) ∧ W.heap[w.heap.size + 1]? = some (.cells #[.int .i64 code, .string d, .slice a n ca, .int .i64 num, .int .i64 s0, .int .i64 s1, .int .i64 s2, .int .i64 s3, .int .i64 s4] 28 (0, 0)))) (by kernel_rfl) ⟨kC, kA⟩ (fun _ => ?_)
  have kC : w2.drew.heap[w.heap.size]? = _ := kC
  have kA : w2.drew.heap[w.heap.size + 1]? = _ := kA
  have HB : Hid (Below w.heap.size w w2.drew) := HB.out.drew
  have zz : w.heap.size + 1 < w2.drew.heap.size := zz
  generalize w2.drew = V2 at *
  refine wpAnyH_take (i := 0) (v := .agg #[.int .i64 kind, .string nm, .string cd, .int .i64 size]) rfl (by kernel_rfl) (by kernel_rfl) (by kernel_rfl) (fun _ _ _ h => h) (Or.inl ⟨rfl, fun V hV => by obtain ⟨⟨c0, c1, c2, c3⟩, _, _, _, _⟩ := four_at hV.1; go_simp⟩) ⟨kC, kA⟩ ?_
  refine wpAnyH_take (i := 2) (v := .agg #[.int .i64 code, .string d, .slice a n ca, .int .i64 num, .int .i64 s0, .int .i64 s1, .int .i64 s2, .int .i64 s3, .int .i64 s4]) rfl (by kernel_rfl) (by kernel_rfl) (by kernel_rfl) (fun _ _ _ h => h) (Or.inl ⟨rfl, fun V hV => by obtain ⟨⟨a0, a1, a2, a3, a4, a5, a6, a7, a8⟩, _, _, _, _, _, _, _, _, _⟩ := nine_of hV.2; go_simp⟩) ⟨kC, kA⟩ ?_
  refine wpAnyH_ready (rs := [1]) (by kernel_rfl) (by simp) (AllReadyH.cons rfl (fun K hK => ?_) AllReadyH.nil)
  go_simp
  refine (toCall_any kind size nm cd _).mono ?_
  rintro e w3 ⟨rfl, hb3⟩
  have kC := (hb3.block w.heap.size (by first | omega | (simp; omega))).trans kC
  have kA := (hb3.block (w.heap.size + 1) (by first | omega | (simp; omega))).trans kA
  have HB := Lib.hid (HB.out.trans (hb3.mono (by have := HB.out.size; first | omega | (simp; omega))))
  have zz : w.heap.size + 1 < w3.heap.size := (Array.getElem?_eq_some_iff.1 kA).1
  clear hb3
  go_simp
  refine hK.out _ _ ⟨kC, kA⟩ (fun _ => ?_)
  clear hK K
  refine wpAnyH_ready (rs := [3]) (by kernel_rfl) (by simp) (AllReadyH.cons rfl (fun K hK => ?_) AllReadyH.nil)
  go_simp
  refine (toAnswer_any code num s0 s1 s2 s3 s4 d a n ca ss _ (HA.out.below HB.out) hn2).mono ?_
  rintro e w4 ⟨g4, rfl, sh4, hg4, hb4⟩
  have kC := (hb4.block w.heap.size (by first | omega | (simp; omega))).trans kC
  have kA := (hb4.block (w.heap.size + 1) (by first | omega | (simp; omega))).trans kA
  have HB := Lib.hid (HB.out.trans (hb4.mono (by have := HB.out.size; first | omega | (simp; omega))))
  have zz : w.heap.size + 1 < w4.heap.size := (Array.getElem?_eq_some_iff.1 kA).1
  clear hb4
  go_simp
  refine hK.out _ _ ⟨kC, kA⟩ (fun _ => ?_)
  clear hK K
  refine wpAnyH_ready (rs := [4]) (by kernel_rfl) (by simp) (AllReadyH.cons rfl (fun K hK => ?_) AllReadyH.nil)
  go_simp
  refine (formatAnswer_spec kind size code num s0 s1 s2 s3 s4 nm cd d g4 n n ss _ sh4 hg4 hn2 ht2 hd2 HR.out.1 HR.out.2.1 HR.out.2.2.1 HR.out.2.2.2.1 HR.out.2.2.2.2.1 HR.out.2.2.2.2.2.1 HR.out.2.2.2.2.2.2).mono ?_
  rintro e w5 ⟨rfl, hb5⟩
  have kC := (hb5.block w.heap.size (by first | omega | (simp; omega))).trans kC
  have kA := (hb5.block (w.heap.size + 1) (by first | omega | (simp; omega))).trans kA
  have HB := Lib.hid (HB.out.trans (hb5.mono (by have := HB.out.size; first | omega | (simp; omega))))
  have zz : w.heap.size + 1 < w5.heap.size := (Array.getElem?_eq_some_iff.1 kA).1
  obtain ⟨F, hF⟩ : ∃ F : ByteArray, F = ⟨(fmtL kind code d ss num [s0, s1, s2, s3, s4]).toArray⟩ := ⟨_, rfl⟩
  rw [← hF]
  have HF := Lib.hid hF
  clear hF sh4
  clear hb5
  go_simp
  refine hK.out _ _ ⟨kC, kA⟩ (fun _ => ?_)
  clear hK K
  refine wpAnyH_ready (rs := [5]) (by kernel_rfl) (by simp) (AllReadyH.cons rfl (fun K hK => ?_) AllReadyH.nil)
  go_simp
  refine hK.out _ _ ⟨kC, kA⟩ (fun _ => ?_)
  clear hK K
  refine wpAnyH_done (by kernel_rfl) ?_ _
  obtain ⟨⟨c0, c1, c2, c3⟩, _, _, _, _⟩ := four_at kC
  obtain ⟨⟨a0, a1, a2, a3, a4, a5, a6, a7, a8⟩, _, _, _, _, _, _, _, _, _⟩ := nine_of kA
  go_wp2_with fail
  refine (toAnswer_any code num s0 s1 s2 s3 s4 d a n ca ss _ (HA.out.below HB.out) hn2).mono ?_
  rintro e w6 ⟨g6, rfl, sh6, hg6, hb6⟩
  have kC := (hb6.block w.heap.size (by first | omega | (simp; omega))).trans kC
  have kA := (hb6.block (w.heap.size + 1) (by first | omega | (simp; omega))).trans kA
  have HB := Lib.hid (HB.out.trans (hb6.mono (by have := HB.out.size; first | omega | (simp; omega))))
  have zz : w.heap.size + 1 < w6.heap.size := (Array.getElem?_eq_some_iff.1 kA).1
  clear hb6
  clear c0 c1 c2 c3 a0 a1 a2 a3 a4 a5 a6 a7 a8
  have SH6 := Lib.hid sh6
  clear sh6
  go_wp2_with fail
  have hal := (Below.refl w6.heap.size w6).alloc (Nat.le_refl _) (.cells #[.int .i64 code, .string d, .slice (some ⟨g6, 0, none⟩) n n, .int .i64 num, .int .i64 s0, .int .i64 s1, .int .i64 s2, .int .i64 s3, .int .i64 s4] 36)
  have kC := (hal.block w.heap.size (by omega)).trans kC
  have kA := (hal.block (w.heap.size + 1) (by omega)).trans kA
  have kX := heap_alloc_new w6 (.cells #[.int .i64 code, .string d, .slice (some ⟨g6, 0, none⟩) n n, .int .i64 num, .int .i64 s0, .int .i64 s1, .int .i64 s2, .int .i64 s3, .int .i64 s4] 36)
  have HB := Lib.hid (HB.out.trans (hal.mono HB.out.size))
  have SH6 := Lib.hid (SH6.out.below hal)
  have hg6 : g6 < (w6.alloc (.cells #[.int .i64 code, .string d, .slice (some ⟨g6, 0, none⟩) n n, .int .i64 num, .int .i64 s0, .int .i64 s1, .int .i64 s2, .int .i64 s3, .int .i64 s4] 36)).heap.size := by have := hal.size; omega
  obtain ⟨B6, hB6⟩ : ∃ B6, w6.heap.size = B6 := ⟨_, rfl⟩
  rw [hB6] at kX
  have HB6 := Lib.hid hB6
  have z6 : w.heap.size + 1 < B6 := by omega
  have y6 := (Array.getElem?_eq_some_iff.1 kX).1
  clear hal hB6
  rw [HB6.out]
  refine wp_region_held_drew (S := (fun W : World => W.heap[w.heap.size]? = some (.cells #[.int .i64 kind, .string nm, .string cd, .int .i64 size] 23 (0, 0)) ∧ W.heap[w.heap.size + 1]? = some (.cells #[.int .i64 code, .string d, .slice a n ca, .int .i64 num, .int .i64 s0, .int .i64 s1, .int .i64 s2, .int .i64 s3, .int .i64 s4] 28 (0, 0)) ∧ W.heap[B6]? = some (.cells #[.int .i64 code, .string d, .slice (some ⟨g6, 0, none⟩) n n, .int .i64 num, .int .i64 s0, .int .i64 s1, .int .i64 s2, .int .i64 s3, .int .i64 s4] 36 (0, 0)))) (by kernel_rfl) ⟨kC, kA, kX⟩ (fun _ => ?_)
  have kC : (w6.alloc (.cells #[.int .i64 code, .string d, .slice (some ⟨g6, 0, none⟩) n n, .int .i64 num, .int .i64 s0, .int .i64 s1, .int .i64 s2, .int .i64 s3, .int .i64 s4] 36)).drew.heap[w.heap.size]? = _ := kC
  have kA : (w6.alloc (.cells #[.int .i64 code, .string d, .slice (some ⟨g6, 0, none⟩) n n, .int .i64 num, .int .i64 s0, .int .i64 s1, .int .i64 s2, .int .i64 s3, .int .i64 s4] 36)).drew.heap[w.heap.size + 1]? = _ := kA
  have kX : (w6.alloc (.cells #[.int .i64 code, .string d, .slice (some ⟨g6, 0, none⟩) n n, .int .i64 num, .int .i64 s0, .int .i64 s1, .int .i64 s2, .int .i64 s3, .int .i64 s4] 36)).drew.heap[B6]? = _ := kX
  have HB : Hid (Below w.heap.size w (w6.alloc (.cells #[.int .i64 code, .string d, .slice (some ⟨g6, 0, none⟩) n n, .int .i64 num, .int .i64 s0, .int .i64 s1, .int .i64 s2, .int .i64 s3, .int .i64 s4] 36)).drew) := HB.out.drew
  have SH6 : Hid (SHead (w6.alloc (.cells #[.int .i64 code, .string d, .slice (some ⟨g6, 0, none⟩) n n, .int .i64 num, .int .i64 s0, .int .i64 s1, .int .i64 s2, .int .i64 s3, .int .i64 s4] 36)).drew g6 n ss) := SH6.out
  have hg6 : g6 < (w6.alloc (.cells #[.int .i64 code, .string d, .slice (some ⟨g6, 0, none⟩) n n, .int .i64 num, .int .i64 s0, .int .i64 s1, .int .i64 s2, .int .i64 s3, .int .i64 s4] 36)).drew.heap.size := hg6
  have y6 : B6 < (w6.alloc (.cells #[.int .i64 code, .string d, .slice (some ⟨g6, 0, none⟩) n n, .int .i64 num, .int .i64 s0, .int .i64 s1, .int .i64 s2, .int .i64 s3, .int .i64 s4] 36)).drew.heap.size := y6
  generalize (w6.alloc (.cells #[.int .i64 code, .string d, .slice (some ⟨g6, 0, none⟩) n n, .int .i64 num, .int .i64 s0, .int .i64 s1, .int .i64 s2, .int .i64 s3, .int .i64 s4] 36)).drew = V6 at *
  refine wpAnyH_take (i := 0) (v := .agg #[.int .i64 kind, .string nm, .string cd, .int .i64 size]) rfl (by kernel_rfl) (by kernel_rfl) (by kernel_rfl) (fun _ _ _ h => h) (Or.inl ⟨rfl, fun V hV => by obtain ⟨⟨c0, c1, c2, c3⟩, _, _, _, _⟩ := four_at hV.1; go_simp⟩) ⟨kC, kA, kX⟩ ?_
  refine wpAnyH_take (i := 2) (v := .agg #[.int .i64 code, .string d, .slice (some ⟨g6, 0, none⟩) n n, .int .i64 num, .int .i64 s0, .int .i64 s1, .int .i64 s2, .int .i64 s3, .int .i64 s4]) rfl (by kernel_rfl) (by kernel_rfl) (by kernel_rfl) (fun _ _ _ h => h) (Or.inl ⟨rfl, fun V hV => by obtain ⟨⟨a0, a1, a2, a3, a4, a5, a6, a7, a8⟩, _, _, _, _, _, _, _, _, _⟩ := nine_of hV.2.2; go_simp⟩) ⟨kC, kA, kX⟩ ?_
  refine wpAnyH_ready (rs := [1]) (by kernel_rfl) (by simp) (AllReadyH.cons rfl (fun K hK => ?_) AllReadyH.nil)
  go_simp
  refine (toCall_any kind size nm cd _).mono ?_
  rintro e w7 ⟨rfl, hb7⟩
  have kC := (hb7.block w.heap.size (by omega)).trans kC
  have kA := (hb7.block (w.heap.size + 1) (by omega)).trans kA
  have kX := (hb7.block B6 (by omega)).trans kX
  have HB := Lib.hid (HB.out.trans (hb7.mono HB.out.size))
  have SH6 := Lib.hid (SH6.out.below hb7)
  have hg6 : g6 < w7.heap.size := Nat.lt_of_lt_of_le hg6 hb7.size
  have y6 : B6 < w7.heap.size := Nat.lt_of_lt_of_le y6 hb7.size
  clear hb7
  go_simp
  refine hK.out _ _ ⟨kC, kA, kX⟩ (fun _ => ?_)
  clear hK K
  refine wpAnyH_ready (rs := [3]) (by kernel_rfl) (by simp) (AllReadyH.cons rfl (fun K hK => ?_) AllReadyH.nil)
  go_simp
  refine (formatAnswer_impl kind size code num s0 s1 s2 s3 s4 nm cd d g6 n n ss _ SH6.out hg6 hn2 ht2 hd2 HR.out.1 HR.out.2.1 HR.out.2.2.1 HR.out.2.2.2.1 HR.out.2.2.2.2.1 HR.out.2.2.2.2.2.1 HR.out.2.2.2.2.2.2 (HT.out.below HB.out)).mono ?_
  rintro e w8 ⟨rfl, hb8⟩
  have kC := (hb8.block w.heap.size (by omega)).trans kC
  have kA := (hb8.block (w.heap.size + 1) (by omega)).trans kA
  have kX := (hb8.block B6 (by omega)).trans kX
  have HB := Lib.hid (HB.out.trans (hb8.mono HB.out.size))
  have SH6 := Lib.hid (SH6.out.below hb8)
  have hg6 : g6 < w8.heap.size := Nat.lt_of_lt_of_le hg6 hb8.size
  have y6 : B6 < w8.heap.size := Nat.lt_of_lt_of_le y6 hb8.size
  rw [← HF.out]
  clear hb8
  go_simp
  refine hK.out _ _ ⟨kC, kA, kX⟩ (fun _ => ?_)
  clear hK K
  refine wpAnyH_ready (rs := [4]) (by kernel_rfl) (by simp) (AllReadyH.cons rfl (fun K hK => ?_) AllReadyH.nil)
  go_simp
  refine hK.out _ _ ⟨kC, kA, kX⟩ (fun _ => ?_)
  clear hK K
  refine wpAnyH_done (by kernel_rfl) ?_ _
  have hFF : (F.toList != F.toList) = false := by simp
  go_wp2_with fail
  refine wp_region_held_drew (S := (fun W : World => W.heap[w.heap.size]? = some (.cells #[.int .i64 kind, .string nm, .string cd, .int .i64 size] 23 (0, 0)) ∧ W.heap[w.heap.size + 1]? = some (.cells #[.int .i64 code, .string d, .slice a n ca, .int .i64 num, .int .i64 s0, .int .i64 s1, .int .i64 s2, .int .i64 s3, .int .i64 s4] 28 (0, 0)) ∧ W.heap[B6]? = some (.cells #[.int .i64 code, .string d, .slice (some ⟨g6, 0, none⟩) n n, .int .i64 num, .int .i64 s0, .int .i64 s1, .int .i64 s2, .int .i64 s3, .int .i64 s4] 36 (0, 0)))) (by kernel_rfl) ⟨kC, kA, kX⟩ (fun _ => ?_)
  have kC : w8.drew.heap[w.heap.size]? = _ := kC
  have kA : w8.drew.heap[w.heap.size + 1]? = _ := kA
  have kX : w8.drew.heap[B6]? = _ := kX
  have HB : Hid (Below w.heap.size w w8.drew) := HB.out.drew
  have SH6 : Hid (SHead w8.drew g6 n ss) := SH6.out
  have hg6 : g6 < w8.drew.heap.size := hg6
  have y6 : B6 < w8.drew.heap.size := y6
  generalize w8.drew = V8 at *
  refine wpAnyH_take (i := 0) (v := .agg #[.int .i64 code, .string d, .slice (some ⟨g6, 0, none⟩) n n, .int .i64 num, .int .i64 s0, .int .i64 s1, .int .i64 s2, .int .i64 s3, .int .i64 s4]) rfl (by kernel_rfl) (by kernel_rfl) (by kernel_rfl) (fun _ _ _ h => h) (Or.inl ⟨rfl, fun V hV => by obtain ⟨⟨a0, a1, a2, a3, a4, a5, a6, a7, a8⟩, _, _, _, _, _, _, _, _, _⟩ := nine_of hV.2.2; go_simp⟩) ⟨kC, kA, kX⟩ ?_
  refine wpAnyH_take (i := 1) (v := .agg #[.int .i64 code, .string d, .slice a n ca, .int .i64 num, .int .i64 s0, .int .i64 s1, .int .i64 s2, .int .i64 s3, .int .i64 s4]) rfl (by kernel_rfl) (by kernel_rfl) (by kernel_rfl) (fun _ _ _ h => h) (Or.inl ⟨rfl, fun V hV => by obtain ⟨⟨a0, a1, a2, a3, a4, a5, a6, a7, a8⟩, _, _, _, _, _, _, _, _, _⟩ := nine_of hV.2.1; go_simp⟩) ⟨kC, kA, kX⟩ ?_
  refine wpAnyH_ready (rs := [2]) (by kernel_rfl) (by simp) (AllReadyH.cons rfl (fun K hK => ?_) AllReadyH.nil)
  go_simp
  refine (toAnswer_any code num s0 s1 s2 s3 s4 d a n ca ss _ (HA.out.below HB.out) hn2).mono ?_
  rintro e w9 ⟨g9, rfl, sh9, hg9, hb9⟩
  have kC := (hb9.block w.heap.size (by omega)).trans kC
  have kA := (hb9.block (w.heap.size + 1) (by omega)).trans kA
  have kX := (hb9.block B6 (by omega)).trans kX
  have HB := Lib.hid (HB.out.trans (hb9.mono HB.out.size))
  have SH6 := Lib.hid (SH6.out.below hb9)
  have hg6 : g6 < w9.heap.size := Nat.lt_of_lt_of_le hg6 hb9.size
  have y6 : B6 < w9.heap.size := Nat.lt_of_lt_of_le y6 hb9.size
  clear hb9
  go_simp
  refine hK.out _ _ ⟨kC, kA, kX⟩ (fun _ => ?_)
  clear hK K
  refine wpAnyH_ready (rs := [3]) (by kernel_rfl) (by simp) (AllReadyH.cons rfl (fun K hK => ?_) AllReadyH.nil)
  go_simp
  refine (eqAnswer_same code num s0 s1 s2 s3 s4 d g6 g9 n n n ss _ SH6.out sh9 hn2).mono ?_
  rintro e wa ⟨rfl, hba⟩
  have kC := (hba.block w.heap.size (by omega)).trans kC
  have kA := (hba.block (w.heap.size + 1) (by omega)).trans kA
  have kX := (hba.block B6 (by omega)).trans kX
  have HB := Lib.hid (HB.out.trans (hba.mono HB.out.size))
  have SH6 := Lib.hid (SH6.out.below hba)
  have hg6 : g6 < wa.heap.size := Nat.lt_of_lt_of_le hg6 hba.size
  have y6 : B6 < wa.heap.size := Nat.lt_of_lt_of_le y6 hba.size
  clear hba
  go_simp
  refine hK.out _ _ ⟨kC, kA, kX⟩ (fun _ => ?_)
  clear hK K
  refine wpAnyH_ready (rs := [4]) (by kernel_rfl) (by simp) (AllReadyH.cons rfl (fun K hK => ?_) AllReadyH.nil)
  go_simp
  refine hK.out _ _ ⟨kC, kA, kX⟩ (fun _ => ?_)
  clear hK K
  refine wpAnyH_done (by kernel_rfl) ?_ _
  go_wp2
  go_ret
  exact ⟨rfl, HB.out⟩
end Go.Proofs.YtkkammbfomiofadDoor
