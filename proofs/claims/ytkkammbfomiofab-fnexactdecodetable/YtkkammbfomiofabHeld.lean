/-
  heldEntryS.
-/
import Derived.Test.YtkkammbfomiofabDc
namespace Go.Proofs.Ytkkammbfomiofab
open Go.RowKit
set_option linter.unusedSimpArgs false
set_option linter.unusedVariables false

set_option maxHeartbeats 1000000 in
theorem heldEntryS_any (a : Option Addr) (n ca : Nat) (k : Int) (es : List (Int × Bool)) (w : World) (ha : ERead w a n es) (he : ∀ i, i < n → eA es i = k + 2 * i ∧ eI es i = ((k + 2 * i + 1) % 3 == 0)) (hn : n ≤ 2097152) (h0 : 0 ≤ k) (h1 : k ≤ 35184372088832) :
    Calls Try.prog 91 #[.slice a n ca, .int .i64 k] w fun e w' => e = .returned (.int .i64 (k + 2 * n)) ∧ w' = w := by
  obtain ⟨hx, ha⟩ := ha
  clear hx
  rcases ha with h0' | ⟨g, off, rfl, hc⟩
  · subst h0'
    go_enter Try.func91, Try.ntmps91
    go_wp2
    refine wp_loop_rounds 1 ?_
    rw [rounds_succ]
    go_wp2
    go_ret
    exact ⟨ret_int (by omega), rfl⟩
  · go_enter Try.func91, Try.ntmps91
    go_wp2
    go_loop [1, 5] (fun kk i => ∃ j : Nat, j ≤ n ∧ kk = .int .i64 (k + 2 * j) ∧ i = .int .i64 j) (fun _ i => n - (intOf i).toNat)
    case atStart => exact ⟨0, Nat.zero_le _, by simp, rfl⟩
    case round =>
      obtain ⟨j, hj, rfl, rfl⟩ := hrel
      by_cases hlt : j < n
      · obtain ⟨c1, c2⟩ := hc j hlt
        obtain ⟨e1, e2⟩ := he j hlt
        rw [e1] at c1
        rw [e2] at c2
        have m1 : ((k + 2 * (j : Int)) != (k + 2 * (j : Int))) = false := by simp
        have m2 : (((k + 2 * (j : Int) + 1) % 3 == 0) != ((k + 2 * (j : Int) + 1) % 3 == 0)) = false := by simp
        clear hc he e1 e2
        go_wp2
        go_round
        case rel => exact ⟨j + 1, by omega, by go_num, by go_num⟩
        case measure => simp [intOf]; omega
      · have hjn : j = n := by omega
        subst hjn
        clear hc he
        go_wp2
        go_ret
        exact ⟨rfl, rfl⟩
end Go.Proofs.Ytkkammbfomiofab
