/-
  PickVictim, both sides; FnExactPickVictim: the law's walk.
-/
import Derived.Test.YtkkammbfomiofaaCand
namespace Go.Proofs.Ytkkammbfomiofaa
open Go.RowKit
set_option linter.unusedSimpArgs false
set_option linter.unusedVariables false

/-- The number that PickVictim answers. -/
def vicN (xs : List Int) (act sb : Int) (n : Nat) : Int := numO (bestO ltC (candL (fitV xs act sb) xs n))

set_option maxHeartbeats 1000000 in
theorem pickVictim_impl (a : Option Addr) (n ca : Nat) (xs : List Int) (act sb : Int) (w : World) (ha : IRow .i64 w a n xs) (hn : n ≤ 2097152) :
    Calls Try.prog 19 #[.slice a n ca, .int .i64 act, .int .i64 sb] w fun e w' => e = .returned (.int .i64 (vicN xs act sb n)) ∧ Below w.heap.size w w' := by
  have hmf : ∀ (fn : Fn) (first cap : Array Value) (w : World), (Instr.makeFunc fn first cap).run Try.prog w = .ok (.func fn first cap) w := fun _ _ _ _ => rfl
  have hb0 : ∀ o, Below w.heap.size w (w.alloc o) := fun o => (Below.refl _ _).alloc (Nat.le_refl _) o
  have hc := candidates_victim a n ca xs act sb w.heap.size (w.alloc (.cells #[.int .i64 sb] 2)) (ha.below (hb0 _)) hn (by simp)
  have hl := candL_len (fitV xs act sb) xs n
  have hl2 : (candL (fitV xs act sb) xs n).length ≤ 2097152 := by omega
  have hB : ∀ (b : Option Addr) (c : Nat) (v : World), NRead v b (candL (fitV xs act sb) xs n).length (candL (fitV xs act sb) xs n) → Calls Try.prog 51 #[.slice b (candL (fitV xs act sb) xs n).length c, .func (.func 53) #[] #[]] v fun e w' => e = .returned (.int .i64 (vicN xs act sb n)) ∧ Below v.heap.size v w' := fun b c v hv => choose_small b _ c _ v hv hl2
  generalize candL (fitV xs act sb) xs n = l at *
  generalize vicN xs act sb n = r at *
  clear ha hl hl2
  go_enter Try.func19, Try.ntmps19
  go_wp2_with fail
  refine hc.mono ?_
  rintro e w2 ⟨s, rfl, own2, hb2⟩
  obtain ⟨b, c, rfl, hr⟩ := owns_pread own2
  have hb2' : Below w.heap.size w w2 := (hb0 _).trans (hb2.mono (by simp))
  clear own2 hc hb2
  go_wp2_with fail
  refine (hB b c w2 hr).mono ?_
  rintro e w3 ⟨rfl, hb3⟩
  have hb4 := hb2'.trans (hb3.mono hb2'.size)
  clear hb2' hb3 hB hr
  go_wp2
  go_ret
  exact ⟨rfl, hb4⟩

/-- v is the number of the best that fits from k on. -/
def BestF (fit : Nat → Bool) (cs : List Int) (k n : Nat) (v : Int) : Prop :=
  (v = -1 ∧ ∀ j, k ≤ j → j < n → fit j = false) ∨ ∃ i, k ≤ i ∧ i < n ∧ v = (i : Int) ∧ fit i = true ∧ ∀ j, k ≤ j → j < n → fit j = true → cs[i]?.getD 0 < cs[j]?.getD 0 ∨ (cs[i]?.getD 0 = cs[j]?.getD 0 ∧ i ≤ j)
theorem BestF.skip {fit : Nat → Bool} {cs : List Int} {k n : Nat} {v : Int} (h : BestF fit cs (k + 1) n v) (hf : fit k = false) : BestF fit cs k n v := by
  rcases h with ⟨e, h⟩ | ⟨i, h1, h2, h3, h4, h5⟩
  · refine .inl ⟨e, fun j h1 h2 => ?_⟩
    by_cases e : j = k
    · rw [e]; exact hf
    · exact h j (by omega) h2
  · refine .inr ⟨i, by omega, h2, h3, h4, fun j q1 q2 q3 => ?_⟩
    by_cases e : j = k
    · rw [e, hf] at q3; cases q3
    · exact h5 j (by omega) q2 q3
theorem BestF.first {fit : Nat → Bool} {cs : List Int} {k n : Nat} (h : BestF fit cs (k + 1) n (-1)) (hk : k < n) (hf : fit k = true) : BestF fit cs k n (k : Int) := by
  rcases h with ⟨_, h⟩ | ⟨i, h1, h2, h3, h4, h5⟩
  · refine .inr ⟨k, Nat.le_refl _, hk, rfl, hf, fun j q1 q2 q3 => ?_⟩
    by_cases e : j = k
    · rw [e]; exact .inr ⟨rfl, Nat.le_refl _⟩
    · rw [h j (by omega) q2] at q3; cases q3
  · omega
theorem BestF.take {fit : Nat → Bool} {cs : List Int} {k n i : Nat} (h : BestF fit cs (k + 1) n (i : Int)) (hk : k < n) (hf : fit k = true) (hc : cs[k]?.getD 0 ≤ cs[i]?.getD 0) : BestF fit cs k n (k : Int) := by
  rcases h with ⟨e, h⟩ | ⟨i', h1, h2, h3, h4, h5⟩
  · omega
  · have : i = i' := by omega
    subst this
    refine .inr ⟨k, Nat.le_refl _, hk, rfl, hf, fun j q1 q2 q3 => ?_⟩
    by_cases e : j = k
    · rw [e]; exact .inr ⟨rfl, Nat.le_refl _⟩
    · have := h5 j (by omega) q2 q3; omega
theorem BestF.stay {fit : Nat → Bool} {cs : List Int} {k n i : Nat} (h : BestF fit cs (k + 1) n (i : Int)) (hc : cs[i]?.getD 0 < cs[k]?.getD 0) : BestF fit cs k n (i : Int) := by
  rcases h with ⟨e, h⟩ | ⟨i', h1, h2, h3, h4, h5⟩
  · omega
  · have : i = i' := by omega
    subst this
    refine .inr ⟨i, by omega, h2, rfl, h4, fun j q1 q2 q3 => ?_⟩
    by_cases e : j = k
    · rw [e]; exact .inl hc
    · exact h5 j (by omega) q2 q3

end Go.Proofs.Ytkkammbfomiofaa
