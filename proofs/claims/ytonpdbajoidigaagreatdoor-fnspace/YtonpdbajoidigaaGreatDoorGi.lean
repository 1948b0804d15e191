/-
  Lay, Layo, Seg.
-/
import Derived.Test.YtonpdbajoidigaaGreatDoorGa
import Derived.Test.YtonpdbajoidigaaGreatDoorGg
import Derived.Test.YtonpdbajoidigaaGreatDoorGh
/-
  Geometries and places: validGeometry, l3Good, Layout (both), dataBlocks, l2Blocks, FileBlocks (both), toGeometry, eqPlaces.
-/
namespace Go.Proofs.YtonpdbajoidigaaGreatDoor
open Go.RowKit
set_option linter.unusedSimpArgs false
set_option linter.unusedVariables false

/-- The blocks of a size. -/
def nblk (z : Int) : Int := (z + 63) / 64
def vG (s b : Int) : Bool := decide (4 ≤ s) && (decide (s ≤ 64) && (decide (2 ≤ b) && decide (b ≤ 16)))
def logN (s b : Int) : Int := 2 * (1 + nblk (2 * (s * b)))
theorem vG_yes {s b : Int} (h : vG s b = true) : 4 ≤ s ∧ s ≤ 64 ∧ 2 ≤ b ∧ b ≤ 16 := by simpa [vG] using h
theorem vG_mul {s b : Int} (h : vG s b = true) : 8 ≤ s * b ∧ s * b ≤ 1024 := by
  obtain ⟨h1, h2, h3, h4⟩ := vG_yes h
  have a : 4 * 2 ≤ s * b := Int.mul_le_mul h1 h3 (by omega) (by omega)
  have c : s * b ≤ 64 * 16 := Int.mul_le_mul h2 h4 (by omega) (by omega)
  omega

theorem dataBlocks_any (z : Int) (w : World) (h0 : 0 ≤ z) (h1 : z ≤ 4096) : Calls Tryz.prog 33 #[.int .i64 z] w fun e w' => e = .returned (.int .i64 (nblk z)) ∧ w' = w := by
  go_enter Tryz.func33, Tryz.ntmps33
  go_wp2
  go_ret
  exact ⟨ret_int (by unfold nblk; omega), rfl⟩

set_option maxHeartbeats 1000000 in
theorem validGeometry_any (s b : Int) (w : World) :
    Calls Tryz.prog 12 #[.agg #[.int .i64 s, .int .i64 b]] w fun e w' => e = .returned (.bool (vG s b)) ∧ Below w.heap.size w w' := by
  have HB : ∀ o, Below w.heap.size w (w.alloc o) := fun o => (Below.refl _ _).alloc (Nat.le_refl _) o
  by_cases h1 : s < 4
  · go_enter Tryz.func12, Tryz.ntmps12
    go_wp2
    go_ret
    exact ⟨ret_boolB (by rw [Bool.eq_iff_iff]; simp [vG]; omega), HB _⟩
  by_cases h2 : 64 < s
  · go_enter Tryz.func12, Tryz.ntmps12
    go_wp2
    go_ret
    exact ⟨ret_boolB (by rw [Bool.eq_iff_iff]; simp [vG]; omega), HB _⟩
  by_cases h3 : b < 2
  · go_enter Tryz.func12, Tryz.ntmps12
    go_wp2
    go_ret
    exact ⟨ret_boolB (by rw [Bool.eq_iff_iff]; simp [vG]; omega), HB _⟩
  by_cases h4 : 16 < b
  · go_enter Tryz.func12, Tryz.ntmps12
    go_wp2
    go_ret
    exact ⟨ret_boolB (by rw [Bool.eq_iff_iff]; simp [vG]; omega), HB _⟩
  · go_enter Tryz.func12, Tryz.ntmps12
    go_wp2
    go_ret
    exact ⟨ret_boolB (by rw [Bool.eq_iff_iff]; simp [vG]; omega), HB _⟩

/-- What Layout answers. -/
def layV (s b : Int) : Value := if vG s b then .agg #[.int .i64 (s * b), .int .i64 (nblk (2 * (s * b))), .int .i64 (logN s b), .int .i64 (logN s b + s * b), .int .i64 (s * b - 2 * b)] else .agg #[.int .i64 0, .int .i64 0, .int .i64 0, .int .i64 0, .int .i64 0]

end Go.Proofs.YtonpdbajoidigaaGreatDoor

/-
  Layout and FileBlocks, both sides; FnExactLayout and FnExactFileBlocks: the laws' walks.
-/
namespace Go.Proofs.YtonpdbajoidigaaGreatDoor
open Go.RowKit
set_option linter.unusedSimpArgs false
set_option linter.unusedVariables false

/-- What Layout answers. -/
def layA (s b : Int) : Array Value := if vG s b then #[.int .i64 (s * b), .int .i64 (nblk (2 * (s * b))), .int .i64 (logN s b), .int .i64 (logN s b + s * b), .int .i64 (s * b - 2 * b)] else #[.int .i64 0, .int .i64 0, .int .i64 0, .int .i64 0, .int .i64 0]

theorem cells2g {w : World} {g : Nat} {t : TypeId} {x0 x1 : Value} (k1 : w.heap[g]? = some (.cells #[x0, x1] t (0, 0))) :
    (w.cell? ⟨g, 0, none⟩ = some x0 ∧ w.cell? ⟨g, 1, none⟩ = some x1) ∧ w.frozen? ⟨g, 0, none⟩ = false ∧ w.frozen? ⟨g, 1, none⟩ = false := by
  refine ⟨⟨?_, ?_⟩, ?_, ?_⟩
  · rw [cell_of_row w g 0 _ _ _ k1]; rfl
  · rw [cell_of_row w g 1 _ _ _ k1]; rfl
  · simp [World.frozen?, k1]
  · simp [World.frozen?, k1]
theorem cells5 {w : World} {g : Nat} {t : TypeId} {x0 x1 x2 x3 x4 : Value} (k1 : w.heap[g]? = some (.cells #[x0, x1, x2, x3, x4] t (0, 0))) :
    (w.cell? ⟨g, 0, none⟩ = some x0 ∧ w.cell? ⟨g, 1, none⟩ = some x1 ∧ w.cell? ⟨g, 2, none⟩ = some x2 ∧ w.cell? ⟨g, 3, none⟩ = some x3 ∧ w.cell? ⟨g, 4, none⟩ = some x4) ∧ w.frozen? ⟨g, 0, none⟩ = false ∧ w.frozen? ⟨g, 1, none⟩ = false ∧ w.frozen? ⟨g, 2, none⟩ = false ∧ w.frozen? ⟨g, 3, none⟩ = false ∧ w.frozen? ⟨g, 4, none⟩ = false := by
  refine ⟨⟨?_, ?_, ?_, ?_, ?_⟩, ?_, ?_, ?_, ?_, ?_⟩
  · rw [cell_of_row w g 0 _ _ _ k1]; rfl
  · rw [cell_of_row w g 1 _ _ _ k1]; rfl
  · rw [cell_of_row w g 2 _ _ _ k1]; rfl
  · rw [cell_of_row w g 3 _ _ _ k1]; rfl
  · rw [cell_of_row w g 4 _ _ _ k1]; rfl
  all_goals simp [World.frozen?, k1]
theorem two_kept {w w1 : World} {o1 o2 : Obj} (hb : Below ((w.alloc o1).alloc o2).heap.size ((w.alloc o1).alloc o2) w1) : w1.heap[w.heap.size]? = some o1 ∧ w1.heap[w.heap.size + 1]? = some o2 ∧ Below w.heap.size w w1 :=
  ⟨(hb.block _ (by simp; omega)).trans (heap_alloc2_old w o1 o2), (hb.block _ (by simp)).trans (heap_alloc2_new w o1 o2), (((Below.refl _ _).alloc (Nat.le_refl _) _).alloc (by simp) _).trans (hb.mono (by simp; omega))⟩

theorem five_then {w : World} {g : Nat} {t : TypeId} {x0 x1 x2 x3 x4 : Value} (k1 : w.heap[g]? = some (.cells #[x0, x1, x2, x3, x4] t (0, 0))) (hl : g < w.heap.size) (v0 v1 v2 v3 v4 : Value) (o : Obj) :
    ((((((w.setCell ⟨g, 0, none⟩ v0).setCell ⟨g, 1, none⟩ v1).setCell ⟨g, 2, none⟩ v2).setCell ⟨g, 3, none⟩ v3).setCell ⟨g, 4, none⟩ v4).alloc o).cell? ⟨g, 0, none⟩ = some v0 ∧
    ((((((w.setCell ⟨g, 0, none⟩ v0).setCell ⟨g, 1, none⟩ v1).setCell ⟨g, 2, none⟩ v2).setCell ⟨g, 3, none⟩ v3).setCell ⟨g, 4, none⟩ v4).alloc o).cell? ⟨g, 1, none⟩ = some v1 ∧
    ((((((w.setCell ⟨g, 0, none⟩ v0).setCell ⟨g, 1, none⟩ v1).setCell ⟨g, 2, none⟩ v2).setCell ⟨g, 3, none⟩ v3).setCell ⟨g, 4, none⟩ v4).alloc o).cell? ⟨g, 2, none⟩ = some v2 ∧
    ((((((w.setCell ⟨g, 0, none⟩ v0).setCell ⟨g, 1, none⟩ v1).setCell ⟨g, 2, none⟩ v2).setCell ⟨g, 3, none⟩ v3).setCell ⟨g, 4, none⟩ v4).alloc o).cell? ⟨g, 3, none⟩ = some v3 ∧
    ((((((w.setCell ⟨g, 0, none⟩ v0).setCell ⟨g, 1, none⟩ v1).setCell ⟨g, 2, none⟩ v2).setCell ⟨g, 3, none⟩ v3).setCell ⟨g, 4, none⟩ v4).alloc o).cell? ⟨g, 4, none⟩ = some v4 := by
  have h : ((((((w.setCell ⟨g, 0, none⟩ v0).setCell ⟨g, 1, none⟩ v1).setCell ⟨g, 2, none⟩ v2).setCell ⟨g, 3, none⟩ v3).setCell ⟨g, 4, none⟩ v4)).heap[g]? = some (.cells #[v0, v1, v2, v3, v4] t (0, 0)) := by
    simp [World.setCell, Array.getElem?_modify, k1]
  have h2 := (heap_alloc_old _ o (by simpa [World.setCell] using hl)).trans h
  exact (cells5 h2).1

set_option maxHeartbeats 1000000 in
theorem layout_impl (s b : Int) (w : World) :
    Calls Tryz.prog 13 #[.agg #[.int .i64 s, .int .i64 b]] w fun e w' => e = .returned (.agg (layA s b)) ∧ Below w.heap.size w w' := by
  go_enter Tryz.func13, Tryz.ntmps13
  go_wp2_with fail
  refine (validGeometry_any s b _).mono ?_
  rintro e w1 ⟨rfl, hb1⟩
  obtain ⟨k0, k1, hB⟩ := two_kept hb1
  clear hb1
  obtain ⟨⟨c0, c1⟩, _, _⟩ := cells2g k0
  obtain ⟨⟨d0, d1, d2, d3, d4⟩, f0, f1, f2, f3, f4⟩ := cells5 k1
  have hB' := fun v0 v1 v2 v3 v4 => ((((hB.setCell (p := ⟨w.heap.size + 1, 0, none⟩) (Nat.le_succ _) v0).setCell (p := ⟨w.heap.size + 1, 1, none⟩) (Nat.le_succ _) v1).setCell (p := ⟨w.heap.size + 1, 2, none⟩) (Nat.le_succ _) v2).setCell (p := ⟨w.heap.size + 1, 3, none⟩) (Nat.le_succ _) v3).setCell (p := ⟨w.heap.size + 1, 4, none⟩) (Nat.le_succ _) v4
  cases hv : vG s b
  · have HL : Hid (layA s b = #[.int .i64 0, .int .i64 0, .int .i64 0, .int .i64 0, .int .i64 0]) := by show _ = _; unfold layA; rw [hv]; rfl
    clear k0 k1 hv
    go_wp2
    refine bodyPost_ret (v := .agg #[.int .i64 0, .int .i64 0, .int .i64 0, .int .i64 0, .int .i64 0]) (by simp [results, Tryz.results13, go_sem, d0, d1, d2, d3, d4]) rfl ⟨by rw [HL.out], hB' _ _ _ _ _⟩
  · obtain ⟨m1, m2⟩ := vG_mul hv
    obtain ⟨v1, v2, v3, v4⟩ := vG_yes hv
    have HL : Hid (layA s b = #[.int .i64 (s * b), .int .i64 (nblk (2 * (s * b))), .int .i64 (2 * (1 + nblk (2 * (s * b)))), .int .i64 (2 * (1 + nblk (2 * (s * b))) + s * b), .int .i64 (s * b - 2 * b)]) := by show _ = _; unfold layA; rw [hv]; rfl
    have n1 : 0 ≤ nblk (2 * (s * b)) ∧ nblk (2 * (s * b)) ≤ 33 := by unfold nblk; omega
    clear k0 k1 hv
    go_wp2_with fail
    refine (dataBlocks_any (2 * (s * b)) _ (by omega) (by omega)).mono ?_
    rintro e w2 ⟨rfl, hw⟩
    have hw' := hw.symm
    subst hw'
    generalize nblk (2 * (s * b)) = T at *
    generalize s * b = P at *
    go_wp2
    refine bodyPost_ret (v := .agg #[.int .i64 P, .int .i64 T, .int .i64 (2 * (1 + T)), .int .i64 (2 * (1 + T) + P), .int .i64 (P - 2 * b)]) (by simp [results, Tryz.results13, go_sem, d0, d1, d2, d3, d4]) rfl ⟨by rw [HL.out], hB' _ _ _ _ _⟩

theorem layA_shape (s b : Int) : ∃ x y z u v : Int, layA s b = #[.int .i64 x, .int .i64 y, .int .i64 z, .int .i64 u, .int .i64 v] := by
  unfold layA
  split
  · exact ⟨_, _, _, _, _, rfl⟩
  · exact ⟨_, _, _, _, _, rfl⟩

set_option maxHeartbeats 1000000 in
theorem fileBlocks_impl (z : Int) (w : World) :
    Calls Tryz.prog 78 #[.int .i64 z] w fun e w' => e = .returned (.int .i64 (if 0 ≤ z ∧ z ≤ 1408 then nblk z + 1 else -1)) ∧ w' = w := by
  by_cases h1 : z < 0
  · rw [if_neg (by omega)]
    go_enter Tryz.func78, Tryz.ntmps78
    go_wp2
    go_ret
    exact ⟨rfl, rfl⟩
  by_cases h2 : 1408 < z
  · rw [if_neg (by omega)]
    go_enter Tryz.func78, Tryz.ntmps78
    go_wp2
    go_ret
    exact ⟨rfl, rfl⟩
  · rw [if_pos (by omega)]
    have h3 : 0 ≤ nblk z ∧ nblk z ≤ 23 := by unfold nblk; omega
    go_enter Tryz.func78, Tryz.ntmps78
    go_wp2_with fail
    refine (dataBlocks_any z _ (by omega) (by omega)).mono ?_
    rintro e w1 ⟨rfl, hw⟩
    have hw' := hw.symm
    subst hw'
    go_wp2
    go_ret
    exact ⟨rfl, rfl⟩
end Go.Proofs.YtonpdbajoidigaaGreatDoor

/-
  Segments' counts: how many entries lie in each segment (numbers alone), heldInt64S, placeInLog.
-/
namespace Go.Proofs.YtonpdbajoidigaaGreatDoor
open Go.RowKit
set_option linter.unusedSimpArgs false
set_option linter.unusedVariables false

def segB (L b : Int) (s : Nat) (x : Int) : Bool := decide (L + (s : Int) * b ≤ x) && decide (x < L + (s : Int) * b + b)
def cntS (L b : Int) (es : List (Int × Bool)) (s k : Nat) : Nat := ((List.range k).filter fun i => segB L b s (eA es i)).length
theorem cntS_succ (L b : Int) (es : List (Int × Bool)) (s k : Nat) : cntS L b es s (k + 1) = cntS L b es s k + (if segB L b s (eA es k) = true then 1 else 0) := by
  simp only [cntS, List.range_succ, List.filter_append, List.length_append]
  cases h : segB L b s (eA es k) <;> simp [h]
theorem cntS_le (L b : Int) (es : List (Int × Bool)) (s k : Nat) : cntS L b es s k ≤ k := by
  unfold cntS; exact Nat.le_trans (List.length_filter_le _ _) (by simp)
def segL (L b : Int) (es : List (Int × Bool)) (m k : Nat) : List Int := (List.range m).map fun s => (cntS L b es s k : Int)
theorem segL_len (L b : Int) (es : List (Int × Bool)) (m k : Nat) : (segL L b es m k).length = m := by simp [segL]
theorem segL_at (L b : Int) (es : List (Int × Bool)) (m k i : Nat) (h : i < m) : (segL L b es m k)[i]?.getD 0 = (cntS L b es i k : Int) := by simp [segL, h]
theorem segL_succ (L b : Int) (es : List (Int × Bool)) (m k : Nat) : segL L b es (m + 1) k = segL L b es m k ++ [(cntS L b es m k : Int)] := by simp [segL, List.range_succ]

theorem seg_in {L b x : Int} {S : Nat} (hb : 0 < b) (h0 : L ≤ x) (h1 : x < L + (S : Int) * b) : ∃ j : Nat, j < S ∧ (x - L) / b = (j : Int) ∧ ∀ s : Nat, segB L b s x = decide (s = j) := by
  have q0 : 0 ≤ (x - L) / b := Int.ediv_nonneg (by omega) (by omega)
  have q1 : (x - L) / b < (S : Int) := (Int.ediv_lt_iff_lt_mul hb).2 (by omega)
  refine ⟨((x - L) / b).toNat, by omega, by omega, fun s => ?_⟩
  have a1 : (s : Int) ≤ (x - L) / b ↔ (s : Int) * b ≤ x - L := Int.le_ediv_iff_mul_le hb
  have a2 : (x - L) / b < (s : Int) + 1 ↔ x - L < ((s : Int) + 1) * b := Int.ediv_lt_iff_lt_mul hb
  have e : ((s : Int) + 1) * b = (s : Int) * b + b := by rw [Int.add_mul]; omega
  rw [e] at a2
  rw [Bool.eq_iff_iff]
  simp only [segB, Bool.and_eq_true, decide_eq_true_eq]
  constructor
  · rintro ⟨h2, h3⟩
    have := a1.2 (by omega)
    have := a2.2 (by omega)
    omega
  · intro h2
    have := a1.1 (by omega)
    have := a2.1 (by omega)
    omega
theorem seg_out {L b x : Int} {S : Nat} (hb : 0 < b) (h : x < L ∨ L + (S : Int) * b ≤ x) (s : Nat) (hs : s < S) : segB L b s x = false := by
  have h0 : 0 ≤ (s : Int) * b := Int.mul_nonneg (by omega) (by omega)
  have h1 : ((s : Int) + 1) * b ≤ (S : Int) * b := Int.mul_le_mul_of_nonneg_right (by omega) (by omega)
  have e : ((s : Int) + 1) * b = (s : Int) * b + b := by rw [Int.add_mul]; omega
  rw [Bool.eq_false_iff]
  simp only [segB, ne_eq, Bool.and_eq_true, decide_eq_true_eq]
  omega

theorem layA_yes {s b : Int} (h : vG s b = true) : layA s b = #[.int .i64 (s * b), .int .i64 (nblk (2 * (s * b))), .int .i64 (logN s b), .int .i64 (logN s b + s * b), .int .i64 (s * b - 2 * b)] := by unfold layA; rw [h]; rfl
theorem logN_bounds {s b : Int} (h : vG s b = true) : 4 ≤ logN s b ∧ logN s b ≤ 70 := by
  obtain ⟨m1, m2⟩ := vG_mul h
  unfold logN nblk; omega

/-- What placeInLog answers. -/
def plV (s b x : Int) : Array Value := if logN s b ≤ x ∧ x < logN s b + s * b then #[.agg #[.int .i64 ((x - logN s b) / b), .int .i64 ((x - logN s b) % b)], .bool true] else #[.agg #[.int .i64 0, .int .i64 0], .bool false]
theorem two_then {w : World} {g : Nat} {t : TypeId} {x0 x1 : Value} (k1 : w.heap[g]? = some (.cells #[x0, x1] t (0, 0))) (v0 v1 : Value) (o : Obj) :
    (((w.setCell ⟨g, 0, none⟩ v0).setCell ⟨g, 1, none⟩ v1).alloc o).cell? ⟨g, 0, none⟩ = some v0 ∧ (((w.setCell ⟨g, 0, none⟩ v0).setCell ⟨g, 1, none⟩ v1).alloc o).cell? ⟨g, 1, none⟩ = some v1 := by
  have hl := (Array.getElem?_eq_some_iff.1 k1).1
  have h : ((w.setCell ⟨g, 0, none⟩ v0).setCell ⟨g, 1, none⟩ v1).heap[g]? = some (.cells #[v0, v1] t (0, 0)) := by
    simp [World.setCell, Array.getElem?_modify, k1]
  have h2 := (heap_alloc_old _ o (by simpa [World.setCell] using hl)).trans h
  exact (cells2g h2).1

set_option maxHeartbeats 2000000 in
theorem placeInLog_any (s b x : Int) (w : World) (hv : vG s b = true) :
    Calls Tryz.prog 73 #[.int .i64 x, .agg #[.int .i64 s, .int .i64 b]] w fun e w' => e = .returned (.tuple (plV s b x)) ∧ Below w.heap.size w w' := by
  have hL := layout_impl s b
  rw [layA_yes hv] at hL
  obtain ⟨l1, l2⟩ := logN_bounds hv
  obtain ⟨m1, m2⟩ := vG_mul hv
  obtain ⟨v1, v2, v3, v4⟩ := vG_yes hv
  have HP : Hid (plV s b x = if logN s b ≤ x ∧ x < logN s b + s * b then #[.agg #[.int .i64 ((x - logN s b) / b), .int .i64 ((x - logN s b) % b)], .bool true] else #[.agg #[.int .i64 0, .int .i64 0], .bool false]) := rfl
  clear hv
  generalize plV s b x = V at *
  generalize nblk (2 * (s * b)) = T at *
  generalize logN s b = L at *
  generalize s * b = P at *
  go_enter Tryz.func73, Tryz.ntmps73
  go_wp2_with fail
  refine (hL _).mono ?_
  rintro e w1 ⟨rfl, hb1⟩
  obtain ⟨k0, k1, hB⟩ := two_kept hb1
  have z0 := (Array.getElem?_eq_some_iff.1 k0).1
  have z1 := (Array.getElem?_eq_some_iff.1 k1).1
  clear hb1 hL
  obtain ⟨⟨c0, c1⟩, _, _⟩ := cells2g k0
  obtain ⟨⟨d0, d1⟩, f0, f1⟩ := cells2g k1
  have HK : Hid (w1.heap[w.heap.size + 1]? = some (.cells #[.int .i64 0, .int .i64 0] 167 (0, 0))) := k1
  have hB' := fun v0 v1 o => ((hB.setCell (p := ⟨w.heap.size + 1, 0, none⟩) (Nat.le_succ _) v0).setCell (p := ⟨w.heap.size + 1, 1, none⟩) (Nat.le_succ _) v1).alloc (by simp [World.setCell]; omega) o
  clear k0 k1
  by_cases h1 : x < L
  · go_wp2
    have g0 := fun v0 v1 o => (two_then HK.out v0 v1 o).1
    have g1 := fun v0 v1 o => (two_then HK.out v0 v1 o).2
    refine bodyPost_ret (v := .tuple #[.agg #[.int .i64 0, .int .i64 0], .bool false]) (by simp [results, Tryz.results73, go_sem, g0, g1]) rfl ?_
    exact ⟨by rw [HP.out, if_neg (by omega)], hB' _ _ _⟩
  by_cases h2 : L + P ≤ x
  · go_wp2
    have g0 := fun v0 v1 o => (two_then HK.out v0 v1 o).1
    have g1 := fun v0 v1 o => (two_then HK.out v0 v1 o).2
    refine bodyPost_ret (v := .tuple #[.agg #[.int .i64 0, .int .i64 0], .bool false]) (by simp [results, Tryz.results73, go_sem, g0, g1]) rfl ?_
    exact ⟨by rw [HP.out, if_neg (by omega)], hB' _ _ _⟩
  · have q0 : 0 ≤ (x - L) / b := Int.ediv_nonneg (by omega) (by omega)
    have q1 : (x - L) / b ≤ x - L := Int.ediv_le_self _ (by omega)
    have hbne : ¬ b = 0 := by omega
    go_wp2
    go_region
    go_wp2
    have g0 := fun v0 v1 o => (two_then HK.out v0 v1 o).1
    have g1 := fun v0 v1 o => (two_then HK.out v0 v1 o).2
    refine bodyPost_ret (v := .tuple #[.agg #[.int .i64 ((x - L) / b), .int .i64 ((x - L) % b)], .bool true]) (by simp [results, Tryz.results73, go_sem, g0, g1]) rfl ?_
    exact ⟨by rw [HP.out, if_pos (by omega)], (hB' _ _ _).drew⟩

/-- What SegmentCounts answers. -/
def segR (s b : Int) (es : List (Int × Bool)) (n : Nat) : List Int := if vG s b = true then segL (logN s b) b es s.toNat n else []
theorem segR_len (s b : Int) (es : List (Int × Bool)) (n : Nat) : (segR s b es n).length ≤ 64 := by
  unfold segR
  split
  · rename_i h
    rw [segL_len]
    have := vG_yes h
    omega
  · simp
theorem ERead.cellsAt {w wr : World} {g off n : Nat} {es : List (Int × Bool)} (h : ERead w (some ⟨g, off, none⟩) n es) (hb : Below w.heap.size w wr) (k : Nat) (hk : k < n) : wr.cell? ⟨g, off + k * 2, none⟩ = some (.int .i64 (eA es k)) ∧ wr.cell? ⟨g, off + k * 2 + 1, none⟩ = some (.bool (eI es k)) := by
  rcases h.2 with h0 | ⟨g', off', e, hc⟩
  · omega
  · injection e with e
    injection e with e1 e2 e3
    subst e1; subst e2
    obtain ⟨q1, q2⟩ := hc k hk
    exact ⟨(hb.cell (World.block_lt_of_cell? w _ q1)).trans q1, (hb.cell (World.block_lt_of_cell? w _ q2)).trans q2⟩
theorem Cells.kept {k : IntKind} {w w' : World} {g off n : Nat} {f : Nat → Int} (h : Cells k w g off n f) (hb : Below w.heap.size w w') : Cells k w' g off n f := by
  intro i hi
  obtain ⟨q1, q2⟩ := h i hi
  have hl := World.block_lt_of_cell? w _ q1
  exact ⟨(hb.cell hl).trans q1, (hb.frozen hl).trans q2⟩
theorem empty_i64 (w : World) : Row .i64 (fun g => w.heap.size ≤ g ∧ g < (w.alloc (.cells #[] 2)).heap.size) (w.alloc (.cells #[] 2)) (some ⟨w.heap.size, 0, none⟩) 0 [] := ⟨rfl, .inl rfl⟩

set_option maxHeartbeats 1000000 in
theorem segCounts_bad (a : Option Addr) (n ca : Nat) (s b : Int) (w : World) (hv : vG s b = false) :
    Calls Tryz.prog 42 #[.slice a n ca, .agg #[.int .i64 s, .int .i64 b]] w fun e w' => ∃ a' c', e = .returned (.slice a' 0 c') ∧ Below w.heap.size w w' := by
  go_enter Tryz.func42, Tryz.ntmps42
  go_wp2_with fail
  refine (validGeometry_any s b _).mono ?_
  rintro e w1 ⟨rfl, hb1⟩
  rw [hv]
  have hB1 : Below w.heap.size w w1 := ((Below.refl _ _).alloc (Nat.le_refl _) _).trans (hb1.mono (by simp))
  clear hb1
  go_wp2
  go_ret
  exact ⟨_, _, rfl, hB1.alloc hB1.size _⟩

theorem pl_yes {s b x : Int} (h : logN s b ≤ x ∧ x < logN s b + s * b) : plV s b x = #[.agg #[.int .i64 ((x - logN s b) / b), .int .i64 ((x - logN s b) % b)], .bool true] := by unfold plV; rw [if_pos h]
theorem pl_no {s b x : Int} (h : ¬ (logN s b ≤ x ∧ x < logN s b + s * b)) : plV s b x = #[.agg #[.int .i64 0, .int .i64 0], .bool false] := by unfold plV; rw [if_neg h]

set_option maxHeartbeats 4000000 in
set_option maxRecDepth 100000 in
theorem segCounts_good (a : Option Addr) (n ca : Nat) (es : List (Int × Bool)) (S : Nat) (b : Int) (w : World) (ha : ERead w a n es) (hn : n ≤ 2097152) (hv : vG (S : Int) b = true) :
    Calls Tryz.prog 42 #[.slice a n ca, .agg #[.int .i64 (S : Int), .int .i64 b]] w fun e w' => ∃ a' c', e = .returned (.slice a' S c') ∧ Row .i64 (fun g => w.heap.size ≤ g ∧ g < w'.heap.size) w' a' S (segL (logN S b) b es S n) ∧ Below w.heap.size w w' := by
  obtain ⟨i0, hi, hz0, hz1, hz2⟩ := info_parts info2
  have HA : Hid (ERead w a n es) := ha
  obtain ⟨v1, v2, v3, v4⟩ := vG_yes hv
  have hP := fun x v => placeInLog_any (S : Int) b x v hv
  have HY : ∀ x, Hid (logN S b ≤ x ∧ x < logN S b + (S : Int) * b → plV S b x = #[.agg #[.int .i64 ((x - logN S b) / b), .int .i64 ((x - logN S b) % b)], .bool true]) := fun x h => pl_yes h
  have HN : ∀ x, Hid (¬ (logN S b ≤ x ∧ x < logN S b + (S : Int) * b) → plV S b x = #[.agg #[.int .i64 0, .int .i64 0], .bool false]) := fun x h => pl_no h
  clear ha
  generalize logN (S : Int) b = L at *
  generalize plV (S : Int) b = V at *
  go_enter Tryz.func42, Tryz.ntmps42
  go_wp2_with fail
  refine (validGeometry_any (S : Int) b _).mono ?_
  rintro e w1 ⟨rfl, hb1⟩
  rw [hv]
  have k1 := (hb1.block w.heap.size (by simp)).trans (heap_alloc_new w _)
  have hB1 : Below w.heap.size w w1 := ((Below.refl _ _).alloc (Nat.le_refl _) _).trans (hb1.mono (by simp))
  have z1 : w.heap.size < w1.heap.size := (Array.getElem?_eq_some_iff.1 k1).1
  obtain ⟨⟨c0, c1⟩, _, _⟩ := cells2g k1
  clear hb1 hv
  go_wp2_with (at_make; refine wpList_make_full _ rfl _ _ 46 rfl w1.heap.size 2 i0 (.int .i64 0) 1 Tryz.underlying46 hi hz0 hz1 .i64 .i64 _ _ S rfl rfl rfl rfl ?c1 ?c2 ?c3 ?_)
  case c1 => rw [hz2]; omega
  case c2 => unfold maxLen; omega
  case c3 => exact Nat.le_refl _
  intro w2 hown hgrow
  have hsz := made_size hown
  have hcs := made_cells hown
  have hb2 := Below.of_grown hgrow
  have k2 := (hb2.block w.heap.size z1).trans k1
  have hB2 := hB1.trans (hb2.mono hB1.size)
  clear hown hgrow hi hz0 hz1 hz2 k1 c0 c1
  go_wp2
  go_loopw [19] (fun i wr => ∃ k : Nat, k ≤ n ∧ i = .int .i64 k ∧ Cells .i64 wr w1.heap.size 0 S (fun j => (cntS L b es j k : Int)) ∧ wr.heap[w.heap.size]? = some (.cells #[.int .i64 (S : Int), .int .i64 b] 25 (0, 0)) ∧ Below w.heap.size w wr ∧ w1.heap.size < wr.heap.size) (fun i _ => n - (intOf i).toNat)
  case atStart => exact ⟨0, Nat.zero_le _, rfl, by simpa [cntS] using hcs, k2, hB2, hsz⟩
  case round =>
    obtain ⟨k, hk, rfl, hf, k3, hB3, z3⟩ := hrel
    clear hcs k2 hB2 hb2
    have s3 := hB3.size
    have z0 : w.heap.size < wr.heap.size := by omega
    by_cases hlt : k < n
    · obtain ⟨g, off, rfl, _⟩ := HA.out.2.resolve_left (by omega)
      obtain ⟨c1, c2⟩ := HA.out.cellsAt hB3 k hlt
      obtain ⟨⟨g0, g1⟩, _, _⟩ := cells2g k3
      have HC : Hid (∀ j, (cntS L b es j (k + 1) : Int) = (cntS L b es j k : Int) + (if segB L b j (eA es k) = true then 1 else 0)) := fun j => by rw [cntS_succ]; split <;> simp
      have HB : ∀ j, Hid (cntS L b es j k ≤ k) := fun j => cntS_le _ _ _ _ _
      have HY' := HY (eA es k)
      have HN' := HN (eA es k)
      have HP := hP (eA es k)
      generalize eA es k = x at *
      clear hP HY HN
      go_wp2_with fail
      refine (HP _).mono ?_
      rintro e w4 ⟨rfl, hb4⟩
      have hb4' : Below wr.heap.size wr w4 := ((Below.refl _ _).alloc (Nat.le_refl _) _).trans (hb4.mono (by simp))
      have k4 := (hb4'.block w.heap.size (by omega)).trans k3
      have hB4 := hB3.trans (hb4'.mono hB3.size)
      have f4 := hf.kept hb4'
      have z4 := hb4'.size
      clear hb4 hb4' hf k3 hB3 HP c1 c2 g0 g1
      by_cases hin : L ≤ x ∧ x < L + (S : Int) * b
      · rw [HY'.out hin]
        obtain ⟨j, hj, hq, hseg⟩ := seg_in (by omega) hin.1 hin.2
        rw [hq]
        obtain ⟨d1, d2⟩ := f4 j hj
        have hbj := (HB j).out
        have f5 := f4.set j hj ((cntS L b es j k : Int) + 1) (fun i => (cntS L b es i (k + 1) : Int)) (fun i _ => by
          show (cntS L b es i (k + 1) : Int) = _
          rw [HC.out i, hseg i]
          by_cases e : i = j
          · rw [e]; simp
          · rw [if_neg e]; simp [e])
        rw [Nat.zero_add] at d1 d2 f5
        have hB5 := hB4.setCell (p := ⟨w1.heap.size, j, none⟩) (by show w.heap.size ≤ w1.heap.size; omega) (.int .i64 ((cntS L b es j k : Int) + 1))
        have k5 : (w4.setCell ⟨w1.heap.size, j, none⟩ (.int .i64 ((cntS L b es j k : Int) + 1))).heap[w.heap.size]? = some (.cells #[.int .i64 (S : Int), .int .i64 b] 25 (0, 0)) := (Below.heap_setCell _ _ _ _ (by show w.heap.size ≠ w1.heap.size; omega)).trans k4
        have z5 : w1.heap.size < (w4.setCell ⟨w1.heap.size, j, none⟩ (.int .i64 ((cntS L b es j k : Int) + 1))).heap.size := by simp [World.setCell]; omega
        have hj' : (j : Int) < (S : Int) := by omega
        have zj : w1.heap.size < w4.heap.size := by omega
        have zk : w.heap.size < w4.heap.size := by omega
        have HF5 := f5
        clear f4 hseg hq HY' HN' HC HB hin
        go_wp2
        go_roundw
        case rel => exact ⟨k + 1, by omega, by go_num, HF5.kept ((Below.refl _ _).alloc (Nat.le_refl _) _), (heap_alloc_old _ _ (by omega)).trans k5, hB5.alloc hB5.size _, by simp; omega⟩
        case measure => simp [intOf]; omega
      · rw [HN'.out hin]
        have hseg := fun s hs => seg_out (b := b) (S := S) (L := L) (x := x) (by omega) (by omega) s hs
        have f5 : Cells .i64 w4 w1.heap.size 0 S (fun i => (cntS L b es i (k + 1) : Int)) := fun i hi => by
          have e : (cntS L b es i (k + 1) : Int) = (cntS L b es i k : Int) := by rw [HC.out i, hseg i hi]; simp
          have := f4 i hi
          simp only [← e] at this
          exact this
        clear f4 hseg HY' HN' HC HB hin
        go_wp2
        go_roundw
        case rel => exact ⟨k + 1, by omega, by go_num, f5.kept ((Below.refl _ _).alloc (Nat.le_refl _) _), (heap_alloc_old w4 _ (by omega)).trans k4, hB4.alloc hB4.size _, by simp; omega⟩
        case measure => simp [intOf]; omega
    · have hkn : k = n := by omega
      subst hkn
      have hfin : Row .i64 (fun g => w.heap.size ≤ g ∧ g < wr.heap.size) wr (some ⟨w1.heap.size, 0, none⟩) S (segL L b es S k) := hf.row ⟨by omega, z3⟩ (segL_len _ _ _ _ _) (fun i hi => segL_at _ _ _ _ _ _ hi)
      clear hf
      go_wp2
      go_ret
      exact ⟨_, _, rfl, hfin, hB3⟩
end Go.Proofs.YtonpdbajoidigaaGreatDoor
