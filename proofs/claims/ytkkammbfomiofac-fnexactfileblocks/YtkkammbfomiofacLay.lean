/-
  Geometries and places: validGeometry, l3Good, Layout (both), dataBlocks, l2Blocks, FileBlocks (both), toGeometry, eqPlaces.
-/
import Derived.Test.YtkkammbfomiofacFill
namespace Go.Proofs.Ytkkammbfomiofac
open Go.RowKit
set_option linter.unusedSimpArgs false
set_option linter.unusedVariables false

/-- The blocks of a size. -/
def nblk (z : Int) : Int := (z + 63) / 64
def vG (s b : Int) : Bool := decide (4 ≤ s) && (decide (s ≤ 64) && (decide (2 ≤ b) && decide (b ≤ 16)))
def logN (s b : Int) : Int := 2 * (1 + nblk (2 * (s * b)))
theorem vG_yes {s b : Int} (h : vG s b = true) : 4 ≤ s ∧ s ≤ 64 ∧ 2 ≤ b ∧ b ≤ 16 := by simpa [vG] using h
theorem vG_mul {s b : Int} (h : vG s b = true) : 8 ≤ s * b ∧ s * b ≤ 1024 := by
  obtain ⟨h1, h2, h3, h4⟩ := vG_yes h
  have a : 4 * 2 ≤ s * b := Int.mul_le_mul h1 h3 (by omega) (by omega)
  have c : s * b ≤ 64 * 16 := Int.mul_le_mul h2 h4 (by omega) (by omega)
  omega

theorem dataBlocks_any (z : Int) (w : World) (h0 : 0 ≤ z) (h1 : z ≤ 4096) : Calls Try.prog 62 #[.int .i64 z] w fun e w' => e = .returned (.int .i64 (nblk z)) ∧ w' = w := by
  go_enter Try.func62, Try.ntmps62
  go_wp2
  go_ret
  exact ⟨ret_int (by unfold nblk; omega), rfl⟩

set_option maxHeartbeats 1000000 in
theorem l2Blocks_any (z : Int) (w : World) (h0 : 0 ≤ z) (h1 : z ≤ 4096) : Calls Try.prog 60 #[.int .i64 z] w fun e w' => e = .returned (.int .i64 (nblk z)) ∧ w' = w := by
  go_enter Try.func60, Try.ntmps60
  go_wp2
  go_loop [3] (fun i => ∃ k : Nat, (k : Int) ≤ nblk z ∧ i = .int .i64 k) (fun i => (nblk z).toNat - (intOf i).toNat)
  case atStart => exact ⟨0, by unfold nblk; omega, rfl⟩
  case round =>
    obtain ⟨k, hk, rfl⟩ := hrel
    have hk2 : (k : Int) ≤ 64 := by unfold nblk at hk; omega
    by_cases hlt : (k : Int) * 64 < z
    · have HK : Hid ((k : Int) + 1 ≤ nblk z) := by show _ ≤ _; unfold nblk at hk ⊢; omega
      clear hk
      go_wp2
      go_round
      case rel => exact ⟨k + 1, by have := HK.out; omega, by go_num⟩
      case measure => have := HK.out; simp [intOf]; omega
    · have HK : Hid ((k : Int) = nblk z) := by show _ = _; unfold nblk at hk ⊢; omega
      clear hk
      go_wp2
      go_ret
      exact ⟨ret_int HK.out, rfl⟩

set_option maxHeartbeats 1000000 in
theorem validGeometry_any (s b : Int) (w : World) :
    Calls Try.prog 61 #[.agg #[.int .i64 s, .int .i64 b]] w fun e w' => e = .returned (.bool (vG s b)) ∧ Below w.heap.size w w' := by
  have HB : ∀ o, Below w.heap.size w (w.alloc o) := fun o => (Below.refl _ _).alloc (Nat.le_refl _) o
  by_cases h1 : s < 4
  · go_enter Try.func61, Try.ntmps61
    go_wp2
    go_ret
    exact ⟨ret_boolB (by rw [Bool.eq_iff_iff]; simp [vG]; omega), HB _⟩
  by_cases h2 : 64 < s
  · go_enter Try.func61, Try.ntmps61
    go_wp2
    go_ret
    exact ⟨ret_boolB (by rw [Bool.eq_iff_iff]; simp [vG]; omega), HB _⟩
  by_cases h3 : b < 2
  · go_enter Try.func61, Try.ntmps61
    go_wp2
    go_ret
    exact ⟨ret_boolB (by rw [Bool.eq_iff_iff]; simp [vG]; omega), HB _⟩
  by_cases h4 : 16 < b
  · go_enter Try.func61, Try.ntmps61
    go_wp2
    go_ret
    exact ⟨ret_boolB (by rw [Bool.eq_iff_iff]; simp [vG]; omega), HB _⟩
  · go_enter Try.func61, Try.ntmps61
    go_wp2
    go_ret
    exact ⟨ret_boolB (by rw [Bool.eq_iff_iff]; simp [vG]; omega), HB _⟩

set_option maxHeartbeats 1000000 in
theorem l3Good_any (s b : Int) (w : World) :
    Calls Try.prog 59 #[.agg #[.int .i64 s, .int .i64 b]] w fun e w' => e = .returned (.bool (vG s b)) ∧ Below w.heap.size w w' := by
  have HB : ∀ o, Below w.heap.size w (w.alloc o) := fun o => (Below.refl _ _).alloc (Nat.le_refl _) o
  by_cases h1 : s < 4
  · go_enter Try.func59, Try.ntmps59
    go_wp2
    go_ret
    exact ⟨ret_boolB (by rw [Bool.eq_iff_iff]; simp [vG]; omega), HB _⟩
  by_cases h2 : 64 < s
  · go_enter Try.func59, Try.ntmps59
    go_wp2
    go_ret
    exact ⟨ret_boolB (by rw [Bool.eq_iff_iff]; simp [vG]; omega), HB _⟩
  by_cases h3 : b < 2
  · go_enter Try.func59, Try.ntmps59
    go_wp2
    go_ret
    exact ⟨ret_boolB (by rw [Bool.eq_iff_iff]; simp [vG]; omega), HB _⟩
  by_cases h4 : 16 < b
  · go_enter Try.func59, Try.ntmps59
    go_wp2
    go_ret
    exact ⟨ret_boolB (by rw [Bool.eq_iff_iff]; simp [vG]; omega), HB _⟩
  · go_enter Try.func59, Try.ntmps59
    go_wp2
    go_ret
    exact ⟨ret_boolB (by rw [Bool.eq_iff_iff]; simp [vG]; omega), HB _⟩

/-- What Layout answers. -/
def layV (s b : Int) : Value := if vG s b then .agg #[.int .i64 (s * b), .int .i64 (nblk (2 * (s * b))), .int .i64 (logN s b), .int .i64 (logN s b + s * b), .int .i64 (s * b - 2 * b)] else .agg #[.int .i64 0, .int .i64 0, .int .i64 0, .int .i64 0, .int .i64 0]

theorem toGeometry_any (s b : Int) (w : World) :
    Calls Try.prog 23 #[.agg #[.int .i64 s, .int .i64 b]] w fun e w' => e = .returned (.agg #[.int .i64 s, .int .i64 b]) ∧ Below w.heap.size w w' := by
  go_enter Try.func23, Try.ntmps23
  go_wp2
  refine bodyPost_ret (v := .agg #[.int .i64 s, .int .i64 b]) (by simp [results, Try.results23, go_sem]) rfl ?_
  refine ⟨rfl, ?_⟩
  exact ((((Below.refl _ _).alloc (Nat.le_refl _) _).alloc (by simp) _).alloc (by simp; omega) _)
end Go.Proofs.Ytkkammbfomiofac
