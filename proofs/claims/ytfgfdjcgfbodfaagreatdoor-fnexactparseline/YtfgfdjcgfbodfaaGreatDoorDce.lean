/-
  The law's helpers over an InodeResult: compare, mark, hold.
-/
import Derived.Test.YtfgfdjcgfbodfaaGreatDoorInts
namespace Go.Proofs.YtfgfdjcgfbodfaaGreatDoor
open Go.RowKit
set_option linter.unusedSimpArgs false
set_option linter.unusedVariables false

set_option maxHeartbeats 1000000 in
theorem heldInt64S_i (a : Option Addr) (n ca : Nat) (k : Int) (w : World) (ha : IRow .i64 w a n (markI k n)) (hn : n ≤ 2097152) (h0 : 0 ≤ k) (h1 : k ≤ 35184372088832) :
    Calls Tryz.prog 21 #[.slice a n ca, .int .i64 k] w fun e w' => e = .returned (.int .i64 (k + n)) ∧ w' = w := by
  obtain ⟨hx, ha⟩ := ha
  clear hx
  rcases ha with h0' | ⟨g, off, rfl, hc⟩
  · subst h0'
    go_enter Tryz.func21, Tryz.ntmps21
    go_wp2
    refine wp_loop_rounds 1 ?_
    rw [rounds_succ]
    go_wp2
    go_ret
    exact ⟨ret_int (by omega), rfl⟩
  · go_enter Tryz.func21, Tryz.ntmps21
    go_wp2
    go_loop [1, 5] (fun kk i => ∃ j : Nat, j ≤ n ∧ kk = .int .i64 (k + j) ∧ i = .int .i64 j) (fun _ i => n - (intOf i).toNat)
    case atStart => exact ⟨0, Nat.zero_le _, by simp, rfl⟩
    case round =>
      obtain ⟨j, hj, rfl, rfl⟩ := hrel
      by_cases hlt : j < n
      · have c2 := hc j hlt
        rw [markI_at _ _ _ hlt] at c2
        have hne : ((k + (j : Int)) != (k + (j : Int))) = false := by simp
        clear hc
        go_wp2
        go_round
        case rel => exact ⟨j + 1, by omega, by go_num, by go_num⟩
        case measure => simp [intOf]; omega
      · have hjn : j = n := by omega
        subst hjn
        clear hc
        go_wp2
        go_ret
        exact ⟨ret_int rfl, rfl⟩

end Go.Proofs.YtfgfdjcgfbodfaaGreatDoor
