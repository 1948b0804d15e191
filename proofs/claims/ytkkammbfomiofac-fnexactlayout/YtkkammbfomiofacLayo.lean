/-
  Layout and FileBlocks, both sides; FnExactLayout and FnExactFileBlocks: the laws' walks.
-/
import Derived.Test.YtkkammbfomiofacLay
namespace Go.Proofs.Ytkkammbfomiofac
open Go.RowKit
set_option linter.unusedSimpArgs false
set_option linter.unusedVariables false

/-- What Layout answers. -/
def layA (s b : Int) : Array Value := if vG s b then #[.int .i64 (s * b), .int .i64 (nblk (2 * (s * b))), .int .i64 (logN s b), .int .i64 (logN s b + s * b), .int .i64 (s * b - 2 * b)] else #[.int .i64 0, .int .i64 0, .int .i64 0, .int .i64 0, .int .i64 0]

theorem cells2g {w : World} {g : Nat} {t : TypeId} {x0 x1 : Value} (k1 : w.heap[g]? = some (.cells #[x0, x1] t (0, 0))) :
    (w.cell? ⟨g, 0, none⟩ = some x0 ∧ w.cell? ⟨g, 1, none⟩ = some x1) ∧ w.frozen? ⟨g, 0, none⟩ = false ∧ w.frozen? ⟨g, 1, none⟩ = false := by
  refine ⟨⟨?_, ?_⟩, ?_, ?_⟩
  · rw [cell_of_row w g 0 _ _ _ k1]; rfl
  · rw [cell_of_row w g 1 _ _ _ k1]; rfl
  · simp [World.frozen?, k1]
  · simp [World.frozen?, k1]
theorem cells5 {w : World} {g : Nat} {t : TypeId} {x0 x1 x2 x3 x4 : Value} (k1 : w.heap[g]? = some (.cells #[x0, x1, x2, x3, x4] t (0, 0))) :
    (w.cell? ⟨g, 0, none⟩ = some x0 ∧ w.cell? ⟨g, 1, none⟩ = some x1 ∧ w.cell? ⟨g, 2, none⟩ = some x2 ∧ w.cell? ⟨g, 3, none⟩ = some x3 ∧ w.cell? ⟨g, 4, none⟩ = some x4) ∧ w.frozen? ⟨g, 0, none⟩ = false ∧ w.frozen? ⟨g, 1, none⟩ = false ∧ w.frozen? ⟨g, 2, none⟩ = false ∧ w.frozen? ⟨g, 3, none⟩ = false ∧ w.frozen? ⟨g, 4, none⟩ = false := by
  refine ⟨⟨?_, ?_, ?_, ?_, ?_⟩, ?_, ?_, ?_, ?_, ?_⟩
  · rw [cell_of_row w g 0 _ _ _ k1]; rfl
  · rw [cell_of_row w g 1 _ _ _ k1]; rfl
  · rw [cell_of_row w g 2 _ _ _ k1]; rfl
  · rw [cell_of_row w g 3 _ _ _ k1]; rfl
  · rw [cell_of_row w g 4 _ _ _ k1]; rfl
  all_goals simp [World.frozen?, k1]
theorem two_kept {w w1 : World} {o1 o2 : Obj} (hb : Below ((w.alloc o1).alloc o2).heap.size ((w.alloc o1).alloc o2) w1) : w1.heap[w.heap.size]? = some o1 ∧ w1.heap[w.heap.size + 1]? = some o2 ∧ Below w.heap.size w w1 :=
  ⟨(hb.block _ (by simp; omega)).trans (heap_alloc2_old w o1 o2), (hb.block _ (by simp)).trans (heap_alloc2_new w o1 o2), (((Below.refl _ _).alloc (Nat.le_refl _) _).alloc (by simp) _).trans (hb.mono (by simp; omega))⟩

theorem five_then {w : World} {g : Nat} {t : TypeId} {x0 x1 x2 x3 x4 : Value} (k1 : w.heap[g]? = some (.cells #[x0, x1, x2, x3, x4] t (0, 0))) (hl : g < w.heap.size) (v0 v1 v2 v3 v4 : Value) (o : Obj) :
    ((((((w.setCell ⟨g, 0, none⟩ v0).setCell ⟨g, 1, none⟩ v1).setCell ⟨g, 2, none⟩ v2).setCell ⟨g, 3, none⟩ v3).setCell ⟨g, 4, none⟩ v4).alloc o).cell? ⟨g, 0, none⟩ = some v0 ∧
    ((((((w.setCell ⟨g, 0, none⟩ v0).setCell ⟨g, 1, none⟩ v1).setCell ⟨g, 2, none⟩ v2).setCell ⟨g, 3, none⟩ v3).setCell ⟨g, 4, none⟩ v4).alloc o).cell? ⟨g, 1, none⟩ = some v1 ∧
    ((((((w.setCell ⟨g, 0, none⟩ v0).setCell ⟨g, 1, none⟩ v1).setCell ⟨g, 2, none⟩ v2).setCell ⟨g, 3, none⟩ v3).setCell ⟨g, 4, none⟩ v4).alloc o).cell? ⟨g, 2, none⟩ = some v2 ∧
    ((((((w.setCell ⟨g, 0, none⟩ v0).setCell ⟨g, 1, none⟩ v1).setCell ⟨g, 2, none⟩ v2).setCell ⟨g, 3, none⟩ v3).setCell ⟨g, 4, none⟩ v4).alloc o).cell? ⟨g, 3, none⟩ = some v3 ∧
    ((((((w.setCell ⟨g, 0, none⟩ v0).setCell ⟨g, 1, none⟩ v1).setCell ⟨g, 2, none⟩ v2).setCell ⟨g, 3, none⟩ v3).setCell ⟨g, 4, none⟩ v4).alloc o).cell? ⟨g, 4, none⟩ = some v4 := by
  have h : ((((((w.setCell ⟨g, 0, none⟩ v0).setCell ⟨g, 1, none⟩ v1).setCell ⟨g, 2, none⟩ v2).setCell ⟨g, 3, none⟩ v3).setCell ⟨g, 4, none⟩ v4)).heap[g]? = some (.cells #[v0, v1, v2, v3, v4] t (0, 0)) := by
    simp [World.setCell, Array.getElem?_modify, k1]
  have h2 := (heap_alloc_old _ o (by simpa [World.setCell] using hl)).trans h
  exact (cells5 h2).1

set_option maxHeartbeats 1000000 in
theorem layout_impl (s b : Int) (w : World) :
    Calls Try.prog 24 #[.agg #[.int .i64 s, .int .i64 b]] w fun e w' => e = .returned (.agg (layA s b)) ∧ Below w.heap.size w w' := by
  go_enter Try.func24, Try.ntmps24
  go_wp2_with fail
  refine (validGeometry_any s b _).mono ?_
  rintro e w1 ⟨rfl, hb1⟩
  obtain ⟨k0, k1, hB⟩ := two_kept hb1
  clear hb1
  obtain ⟨⟨c0, c1⟩, _, _⟩ := cells2g k0
  obtain ⟨⟨d0, d1, d2, d3, d4⟩, f0, f1, f2, f3, f4⟩ := cells5 k1
  have hB' := fun v0 v1 v2 v3 v4 => ((((hB.setCell (p := ⟨w.heap.size + 1, 0, none⟩) (Nat.le_succ _) v0).setCell (p := ⟨w.heap.size + 1, 1, none⟩) (Nat.le_succ _) v1).setCell (p := ⟨w.heap.size + 1, 2, none⟩) (Nat.le_succ _) v2).setCell (p := ⟨w.heap.size + 1, 3, none⟩) (Nat.le_succ _) v3).setCell (p := ⟨w.heap.size + 1, 4, none⟩) (Nat.le_succ _) v4
  cases hv : vG s b
  · have HL : Hid (layA s b = #[.int .i64 0, .int .i64 0, .int .i64 0, .int .i64 0, .int .i64 0]) := by show _ = _; unfold layA; rw [hv]; rfl
    clear k0 k1 hv
    go_wp2
    refine bodyPost_ret (v := .agg #[.int .i64 0, .int .i64 0, .int .i64 0, .int .i64 0, .int .i64 0]) (by simp [results, Try.results24, go_sem, d0, d1, d2, d3, d4]) rfl ⟨by rw [HL.out], hB' _ _ _ _ _⟩
  · obtain ⟨m1, m2⟩ := vG_mul hv
    obtain ⟨v1, v2, v3, v4⟩ := vG_yes hv
    have HL : Hid (layA s b = #[.int .i64 (s * b), .int .i64 (nblk (2 * (s * b))), .int .i64 (2 * (1 + nblk (2 * (s * b)))), .int .i64 (2 * (1 + nblk (2 * (s * b))) + s * b), .int .i64 (s * b - 2 * b)]) := by show _ = _; unfold layA; rw [hv]; rfl
    have n1 : 0 ≤ nblk (2 * (s * b)) ∧ nblk (2 * (s * b)) ≤ 33 := by unfold nblk; omega
    clear k0 k1 hv
    go_wp2_with fail
    refine (dataBlocks_any (2 * (s * b)) _ (by omega) (by omega)).mono ?_
    rintro e w2 ⟨rfl, hw⟩
    have hw' := hw.symm
    subst hw'
    generalize nblk (2 * (s * b)) = T at *
    generalize s * b = P at *
    go_wp2
    refine bodyPost_ret (v := .agg #[.int .i64 P, .int .i64 T, .int .i64 (2 * (1 + T)), .int .i64 (2 * (1 + T) + P), .int .i64 (P - 2 * b)]) (by simp [results, Try.results24, go_sem, d0, d1, d2, d3, d4]) rfl ⟨by rw [HL.out], hB' _ _ _ _ _⟩

set_option maxHeartbeats 1000000 in
theorem layout_spec (s b : Int) (w : World) :
    Calls Try.prog 22 #[.agg #[.int .i64 s, .int .i64 b]] w fun e w' => e = .returned (.agg (layA s b)) ∧ Below w.heap.size w w' := by
  go_enter Try.func22, Try.ntmps22
  go_wp2_with fail
  refine (l3Good_any s b _).mono ?_
  rintro e w1 ⟨rfl, hb1⟩
  obtain ⟨k0, k1, hB⟩ := two_kept hb1
  clear hb1
  obtain ⟨⟨c0, c1⟩, _, _⟩ := cells2g k0
  obtain ⟨⟨d0, d1, d2, d3, d4⟩, f0, f1, f2, f3, f4⟩ := cells5 k1
  have l1 : w.heap.size + 1 < w1.heap.size := (Array.getElem?_eq_some_iff.1 k1).1
  cases hv : vG s b
  · have hB' := fun v0 v1 v2 v3 v4 => ((((hB.setCell (p := ⟨w.heap.size + 1, 0, none⟩) (Nat.le_succ _) v0).setCell (p := ⟨w.heap.size + 1, 1, none⟩) (Nat.le_succ _) v1).setCell (p := ⟨w.heap.size + 1, 2, none⟩) (Nat.le_succ _) v2).setCell (p := ⟨w.heap.size + 1, 3, none⟩) (Nat.le_succ _) v3).setCell (p := ⟨w.heap.size + 1, 4, none⟩) (Nat.le_succ _) v4
    have HL : Hid (layA s b = #[.int .i64 0, .int .i64 0, .int .i64 0, .int .i64 0, .int .i64 0]) := by show _ = _; unfold layA; rw [hv]; rfl
    clear k0 k1 hv
    go_wp2
    refine bodyPost_ret (v := .agg #[.int .i64 0, .int .i64 0, .int .i64 0, .int .i64 0, .int .i64 0]) (by simp [results, Try.results22, go_sem, d0, d1, d2, d3, d4]) rfl ⟨by rw [HL.out], hB' _ _ _ _ _⟩
  · obtain ⟨m1, m2⟩ := vG_mul hv
    obtain ⟨v1, v2, v3, v4⟩ := vG_yes hv
    have HL : Hid (layA s b = #[.int .i64 (s * b), .int .i64 (nblk (2 * (s * b))), .int .i64 (2 * (1 + nblk (2 * (s * b)))), .int .i64 (2 * (1 + nblk (2 * (s * b))) + s * b), .int .i64 (s * b - 2 * b)]) := by show _ = _; unfold layA; rw [hv]; rfl
    have n1 : 0 ≤ nblk (2 * (s * b)) ∧ nblk (2 * (s * b)) ≤ 33 := by unfold nblk; omega
    clear hv
    go_wp2_with fail
    refine (l2Blocks_any (2 * (s * b)) _ (by omega) (by omega)).mono ?_
    rintro e w2 ⟨rfl, hw⟩
    have hw' := hw.symm
    subst hw'
    generalize nblk (2 * (s * b)) = T at *
    generalize s * b = P at *
    have l0 : w.heap.size < w1.heap.size := by omega
    have kA0 : ∀ o, (w1.alloc o).heap[w.heap.size]? = some (.cells #[.int .i64 s, .int .i64 b] 42 (0, 0)) := fun o => (heap_alloc_old w1 o l0).trans k0
    have kA1 : ∀ o, (w1.alloc o).heap[w.heap.size + 1]? = some (.cells #[.int .i64 0, .int .i64 0, .int .i64 0, .int .i64 0, .int .i64 0] 40 (0, 0)) := fun o => (heap_alloc_old w1 o l1).trans k1
    have cA : ∀ o, (w1.alloc o).cell? ⟨w.heap.size, 1, none⟩ = some (.int .i64 b) := fun o => (cells2g (kA0 o)).1.2
    have dA0 : ∀ o, (w1.alloc o).cell? ⟨w.heap.size + 1, 0, none⟩ = some (.int .i64 0) := fun o => (cells5 (kA1 o)).1.1
    have dA1 : ∀ o, (w1.alloc o).cell? ⟨w.heap.size + 1, 1, none⟩ = some (.int .i64 0) := fun o => (cells5 (kA1 o)).1.2.1
    have dA2 : ∀ o, (w1.alloc o).cell? ⟨w.heap.size + 1, 2, none⟩ = some (.int .i64 0) := fun o => (cells5 (kA1 o)).1.2.2.1
    have dA3 : ∀ o, (w1.alloc o).cell? ⟨w.heap.size + 1, 3, none⟩ = some (.int .i64 0) := fun o => (cells5 (kA1 o)).1.2.2.2.1
    have dA4 : ∀ o, (w1.alloc o).cell? ⟨w.heap.size + 1, 4, none⟩ = some (.int .i64 0) := fun o => (cells5 (kA1 o)).1.2.2.2.2
    have fA0 : ∀ o, (w1.alloc o).frozen? ⟨w.heap.size + 1, 0, none⟩ = false := fun o => (cells5 (kA1 o)).2.1
    have fA1 : ∀ o, (w1.alloc o).frozen? ⟨w.heap.size + 1, 1, none⟩ = false := fun o => (cells5 (kA1 o)).2.2.1
    have fA2 : ∀ o, (w1.alloc o).frozen? ⟨w.heap.size + 1, 2, none⟩ = false := fun o => (cells5 (kA1 o)).2.2.2.1
    have fA3 : ∀ o, (w1.alloc o).frozen? ⟨w.heap.size + 1, 3, none⟩ = false := fun o => (cells5 (kA1 o)).2.2.2.2.1
    have fA4 : ∀ o, (w1.alloc o).frozen? ⟨w.heap.size + 1, 4, none⟩ = false := fun o => (cells5 (kA1 o)).2.2.2.2.2
    have HF := fun v0 v1 v2 v3 v4 o => five_then k1 l1 v0 v1 v2 v3 v4 o
    have hB' := fun v0 v1 v2 v3 v4 o => (((((hB.setCell (p := ⟨w.heap.size + 1, 0, none⟩) (Nat.le_succ _) v0).setCell (p := ⟨w.heap.size + 1, 1, none⟩) (Nat.le_succ _) v1).setCell (p := ⟨w.heap.size + 1, 2, none⟩) (Nat.le_succ _) v2).setCell (p := ⟨w.heap.size + 1, 3, none⟩) (Nat.le_succ _) v3).setCell (p := ⟨w.heap.size + 1, 4, none⟩) (Nat.le_succ _) v4).alloc (by simp [World.setCell]; omega) o
    clear k0 kA0 kA1 HF
    have HK : Hid (w1.heap[w.heap.size + 1]? = some (.cells #[.int .i64 0, .int .i64 0, .int .i64 0, .int .i64 0, .int .i64 0] 40 (0, 0))) := k1
    clear k1
    go_wp2
    have g0 := fun v0 v1 v2 v3 v4 o => (five_then HK.out l1 v0 v1 v2 v3 v4 o).1
    have g1 := fun v0 v1 v2 v3 v4 o => (five_then HK.out l1 v0 v1 v2 v3 v4 o).2.1
    have g2 := fun v0 v1 v2 v3 v4 o => (five_then HK.out l1 v0 v1 v2 v3 v4 o).2.2.1
    have g3 := fun v0 v1 v2 v3 v4 o => (five_then HK.out l1 v0 v1 v2 v3 v4 o).2.2.2.1
    have g4 := fun v0 v1 v2 v3 v4 o => (five_then HK.out l1 v0 v1 v2 v3 v4 o).2.2.2.2
    refine bodyPost_ret (v := .agg #[.int .i64 P, .int .i64 T, .int .i64 (2 * (1 + T)), .int .i64 (2 * (1 + T) + P), .int .i64 (P - 2 * b)]) (by simp [results, Try.results22, go_sem, g0, g1, g2, g3, g4]) rfl ?_
    exact ⟨by rw [HL.out], hB' _ _ _ _ _ _⟩

set_option maxHeartbeats 1000000 in
theorem eqPlaces_same (x y z u v : Int) (w : World) :
    Calls Try.prog 25 #[.agg #[.int .i64 x, .int .i64 y, .int .i64 z, .int .i64 u, .int .i64 v], .agg #[.int .i64 x, .int .i64 y, .int .i64 z, .int .i64 u, .int .i64 v]] w fun e w' => e = .returned (.bool true) ∧ Below w.heap.size w w' := by
  have h1 : (x != x) = false := by simp
  have h2 : (y != y) = false := by simp
  have h3 : (z != z) = false := by simp
  have h4 : (u != u) = false := by simp
  have h5 : (v != v) = false := by simp
  go_enter Try.func25, Try.ntmps25
  go_wp2
  go_ret
  exact ⟨rfl, ((Below.refl _ _).alloc (Nat.le_refl _) _).alloc (by simp) _⟩
theorem layA_shape (s b : Int) : ∃ x y z u v : Int, layA s b = #[.int .i64 x, .int .i64 y, .int .i64 z, .int .i64 u, .int .i64 v] := by
  unfold layA
  split
  · exact ⟨_, _, _, _, _, rfl⟩
  · exact ⟨_, _, _, _, _, rfl⟩

set_option maxHeartbeats 4000000 in
theorem law_layout (s b : Int) (w : World) :
    Calls Try.prog 5 #[.agg #[.int .i64 s, .int .i64 b]] w fun e w' => e = .returned (.bool true) ∧ Below w.heap.size w w' := by
  obtain ⟨x, y, z, u, v, hV⟩ := layA_shape s b
  have hS := layout_spec s b
  have hI := layout_impl s b
  rw [hV] at hS hI
  clear hV
  go_enter Try.func5, Try.ntmps5
  go_wp2_with fail
  refine (toGeometry_any s b _).mono ?_
  rintro e w1 ⟨rfl, hb1⟩
  have k1 := (hb1.block w.heap.size (by simp)).trans (heap_alloc_new w _)
  have HB1 : Hid (Below w.heap.size w w1) := ((Below.refl _ _).alloc (Nat.le_refl _) _).trans (hb1.mono (by simp))
  have z1 : w.heap.size < w1.heap.size := (Array.getElem?_eq_some_iff.1 k1).1
  clear hb1
  go_wp2_with fail
  refine (hS _).mono ?_
  rintro e w2 ⟨rfl, hb2⟩
  have k2 := (hb2.block w.heap.size z1).trans k1
  have HB2 : Hid (Below w.heap.size w w2) := HB1.out.trans (hb2.mono HB1.out.size)
  have z2 : w.heap.size < w2.heap.size := (Array.getElem?_eq_some_iff.1 k2).1
  have cA0 : ∀ o, (w2.alloc o).cell? ⟨w.heap.size, 0, none⟩ = some (.int .i64 s) := fun o => (cells2g ((heap_alloc_old w2 o z2).trans k2)).1.1
  have cA1 : ∀ o, (w2.alloc o).cell? ⟨w.heap.size, 1, none⟩ = some (.int .i64 b) := fun o => (cells2g ((heap_alloc_old w2 o z2).trans k2)).1.2
  clear hb2 k1 HB1 k2
  go_wp2_with fail
  refine (toGeometry_any s b _).mono ?_
  rintro e w3 ⟨rfl, hb3⟩
  have k3 := (hb3.block w2.heap.size (by simp)).trans (heap_alloc_new w2 _)
  have HB3 : Hid (Below w.heap.size w w3) := (HB2.out.alloc HB2.out.size _).trans (hb3.mono (by have := HB2.out.size; simp; omega))
  have z3 : w2.heap.size < w3.heap.size := (Array.getElem?_eq_some_iff.1 k3).1
  clear hb3 HB2 cA0 cA1
  go_wp2_with fail
  refine (hI _).mono ?_
  rintro e w4 ⟨rfl, hb4⟩
  have k4 := (hb4.block w2.heap.size z3).trans k3
  have HB4 : Hid (Below w.heap.size w w4) := HB3.out.trans (hb4.mono HB3.out.size)
  have z4 := hb4.size
  have cB : ∀ o, (((w4.alloc o).cell? ⟨w2.heap.size, 0, none⟩ = some (.int .i64 x) ∧ (w4.alloc o).cell? ⟨w2.heap.size, 1, none⟩ = some (.int .i64 y) ∧ (w4.alloc o).cell? ⟨w2.heap.size, 2, none⟩ = some (.int .i64 z) ∧ (w4.alloc o).cell? ⟨w2.heap.size, 3, none⟩ = some (.int .i64 u) ∧ (w4.alloc o).cell? ⟨w2.heap.size, 4, none⟩ = some (.int .i64 v))) := fun o => (cells5 ((heap_alloc_old w4 o (by omega)).trans k4)).1
  have c0 := fun o => (cB o).1
  have c1 := fun o => (cB o).2.1
  have c2 := fun o => (cB o).2.2.1
  have c3 := fun o => (cB o).2.2.2.1
  have c4 := fun o => (cB o).2.2.2.2
  clear hb4 HB3 cB k3 k4
  go_wp2_with fail
  refine (eqPlaces_same x y z u v _).mono ?_
  rintro e w5 ⟨rfl, hb5⟩
  have HB5 : Hid (Below w.heap.size w w5) := (HB4.out.alloc HB4.out.size _).trans (hb5.mono (by have := HB4.out.size; simp; omega))
  clear hb5 c0 c1 c2 c3 c4
  go_wp2
  go_ret
  exact ⟨rfl, HB5.out⟩

set_option maxHeartbeats 1000000 in
theorem fileBlocks_impl (z : Int) (w : World) :
    Calls Try.prog 41 #[.int .i64 z] w fun e w' => e = .returned (.int .i64 (if 0 ≤ z ∧ z ≤ 1408 then nblk z + 1 else -1)) ∧ w' = w := by
  by_cases h1 : z < 0
  · rw [if_neg (by omega)]
    go_enter Try.func41, Try.ntmps41
    go_wp2
    go_ret
    exact ⟨rfl, rfl⟩
  by_cases h2 : 1408 < z
  · rw [if_neg (by omega)]
    go_enter Try.func41, Try.ntmps41
    go_wp2
    go_ret
    exact ⟨rfl, rfl⟩
  · rw [if_pos (by omega)]
    have h3 : 0 ≤ nblk z ∧ nblk z ≤ 23 := by unfold nblk; omega
    go_enter Try.func41, Try.ntmps41
    go_wp2_with fail
    refine (dataBlocks_any z _ (by omega) (by omega)).mono ?_
    rintro e w1 ⟨rfl, hw⟩
    have hw' := hw.symm
    subst hw'
    go_wp2
    go_ret
    exact ⟨rfl, rfl⟩
set_option maxHeartbeats 1000000 in
theorem fileBlocks_spec (z : Int) (w : World) :
    Calls Try.prog 40 #[.int .i64 z] w fun e w' => e = .returned (.int .i64 (if 0 ≤ z ∧ z ≤ 1408 then nblk z + 1 else -1)) ∧ w' = w := by
  by_cases h1 : z < 0
  · rw [if_neg (by omega)]
    go_enter Try.func40, Try.ntmps40
    go_wp2
    go_ret
    exact ⟨rfl, rfl⟩
  by_cases h2 : 1408 < z
  · rw [if_neg (by omega)]
    go_enter Try.func40, Try.ntmps40
    go_wp2
    go_ret
    exact ⟨rfl, rfl⟩
  · rw [if_pos (by omega)]
    have h3 : 0 ≤ nblk z ∧ nblk z ≤ 23 := by unfold nblk; omega
    go_enter Try.func40, Try.ntmps40
    go_wp2_with fail
    refine (l2Blocks_any z _ (by omega) (by omega)).mono ?_
    rintro e w1 ⟨rfl, hw⟩
    have hw' := hw.symm
    subst hw'
    go_wp2
    go_ret
    exact ⟨rfl, rfl⟩
set_option maxHeartbeats 1000000 in
theorem law_fileBlocks (z : Int) (w : World) :
    Calls Try.prog 8 #[.int .i64 z] w fun e w' => e = .returned (.bool true) ∧ Below w.heap.size w w' := by
  have hS := fileBlocks_spec z
  have hI := fileBlocks_impl z
  generalize (if 0 ≤ z ∧ z ≤ 1408 then nblk z + 1 else -1) = r at *
  have hne : (r != r) = false := by simp
  go_enter Try.func8, Try.ntmps8
  go_wp2_with fail
  refine (hS _).mono ?_
  rintro e w1 ⟨rfl, hw⟩
  have hw' := hw.symm
  subst hw'
  go_wp2_with fail
  refine (hI _).mono ?_
  rintro e w1 ⟨rfl, hw⟩
  have hw' := hw.symm
  subst hw'
  go_wp2
  go_ret
  exact ⟨rfl, Below.refl _ _⟩
end Go.Proofs.Ytkkammbfomiofac
