/-
  lwAt: a choice out of bytes.
-/
import Derived.Test.YtkkammbfomiofaaDsf
namespace Go.Proofs.Ytkkammbfomiofaa
open Go.RowKit
set_option linter.unusedSimpArgs false
set_option linter.unusedVariables false

/-- Some choice below n: the bytes are read, nothing is written. -/
theorem lwa_range (x m : Int) (h : 0 < m) : 0 ≤ x % m ∧ x % m < m := ⟨Int.emod_nonneg _ (by omega), Int.emod_lt_of_pos _ h⟩
theorem below_drewNW (w : World) (d : Nat) : Below w.heap.size w (w.drewN d) := (Kept.drewN w d (fun _ => False)).below (Nat.le_refl _) (fun g hg => hg.elim)
set_option maxHeartbeats 1000000 in
set_option maxRecDepth 100000 in
theorem lwAt_any (a : Option Addr) (l ca : Nat) (xs : List Int) (i : Nat) (m : Int) (w : World) (h : IRow .u8 w a l xs) (hx : ∀ i, i < l → 0 ≤ xs[i]?.getD 0 ∧ xs[i]?.getD 0 ≤ 255) (hl : l ≤ 2097152) (hi : i ≤ 2097152) (hm : 2 ≤ m) (hm2 : m ≤ 1000000) :
    Calls Try.prog 48 #[.slice a l ca, .int .i64 i, .int .i64 m] w fun e w' => ∃ v, e = .returned (.int .i64 v) ∧ (0 ≤ v ∧ v < m) ∧ Below w.heap.size w w' := by
  by_cases h0 : l = 0
  · subst h0
    have hr := lwa_range ((i : Int) * 7) m (by omega)
    have HR : Hid (0 ≤ ((i : Int) * 7) % m ∧ ((i : Int) * 7) % m < m) := hr
    clear h hx hr
    go_enter Try.func48, Try.ntmps48
    go_wp2
    go_ret
    exact ⟨_, rfl, HR.out, Below.refl _ _⟩
  · obtain ⟨g, off, rfl, hc⟩ := h.2.resolve_left h0
    have hq : i % l < l := Nat.mod_lt _ (by omega)
    have c1 := hc (i % l) hq
    obtain ⟨x0, x1⟩ := hx (i % l) hq
    have gl := World.block_lt_of_cell? w _ c1
    generalize xs[i % l]?.getD 0 = x at *
    have hr := lwa_range (x + (i : Int) / (l : Int)) m (by omega)
    have HR : Hid (0 ≤ (x + (i : Int) / (l : Int)) % m ∧ (x + (i : Int) / (l : Int)) % m < m) := hr
    have d0 : 0 ≤ (i : Int) / (l : Int) := Int.ediv_nonneg (by omega) (by omega)
    have d1 : (i : Int) / (l : Int) ≤ i := Int.ediv_le_self _ (by omega)
    have e0 : (i : Int) % (l : Int) = ((i % l : Nat) : Int) := by simp
    generalize i % l = q at *
    have l0 : 0 < l := by omega
    clear h hc hx hr
    go_enter Try.func48, Try.ntmps48
    go_wp2
    go_quiet (fail)
    go_wp2
    go_ret
    exact ⟨_, rfl, HR.out, below_drewNW _ _⟩
end Go.Proofs.Ytkkammbfomiofaa
