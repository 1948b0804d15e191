/-
  PickVictim, both sides; FnExactPickVictim: the law's walk.
-/
import Derived.Test.YtkkammbfomiofacCand
namespace Go.Proofs.Ytkkammbfomiofac
open Go.RowKit
set_option linter.unusedSimpArgs false
set_option linter.unusedVariables false

/-- The number that PickVictim answers. -/
def vicN (xs : List Int) (act sb : Int) (n : Nat) : Int := numO (bestO ltC (candL (fitV xs act sb) xs n))

set_option maxHeartbeats 1000000 in
theorem pickVictim_impl (a : Option Addr) (n ca : Nat) (xs : List Int) (act sb : Int) (w : World) (ha : IRow .i64 w a n xs) (hn : n ≤ 2097152) :
    Calls Try.prog 46 #[.slice a n ca, .int .i64 act, .int .i64 sb] w fun e w' => e = .returned (.int .i64 (vicN xs act sb n)) ∧ Below w.heap.size w w' := by
  have hmf : ∀ (fn : Fn) (first cap : Array Value) (w : World), (Instr.makeFunc fn first cap).run Try.prog w = .ok (.func fn first cap) w := fun _ _ _ _ => rfl
  have hb0 : ∀ o, Below w.heap.size w (w.alloc o) := fun o => (Below.refl _ _).alloc (Nat.le_refl _) o
  have hc := candidates_victim a n ca xs act sb w.heap.size (w.alloc (.cells #[.int .i64 sb] 2)) (ha.below (hb0 _)) hn (by simp)
  have hl := candL_len (fitV xs act sb) xs n
  have hl2 : (candL (fitV xs act sb) xs n).length ≤ 2097152 := by omega
  have hB : ∀ (b : Option Addr) (c : Nat) (v : World), NRead v b (candL (fitV xs act sb) xs n).length (candL (fitV xs act sb) xs n) → Calls Try.prog 72 #[.slice b (candL (fitV xs act sb) xs n).length c, .func (.func 76) #[] #[]] v fun e w' => e = .returned (.int .i64 (vicN xs act sb n)) ∧ Below v.heap.size v w' := fun b c v hv => choose_small b _ c _ v hv hl2
  generalize candL (fitV xs act sb) xs n = l at *
  generalize vicN xs act sb n = r at *
  clear ha hl hl2
  go_enter Try.func46, Try.ntmps46
  go_wp2_with fail
  refine hc.mono ?_
  rintro e w2 ⟨s, rfl, own2, hb2⟩
  obtain ⟨b, c, rfl, hr⟩ := owns_pread own2
  have hb2' : Below w.heap.size w w2 := (hb0 _).trans (hb2.mono (by simp))
  clear own2 hc hb2
  go_wp2_with fail
  refine (hB b c w2 hr).mono ?_
  rintro e w3 ⟨rfl, hb3⟩
  have hb4 := hb2'.trans (hb3.mono hb2'.size)
  clear hb2' hb3 hB hr
  go_wp2
  go_ret
  exact ⟨rfl, hb4⟩

/-- v is the number of the best that fits from k on. -/
def BestF (fit : Nat → Bool) (cs : List Int) (k n : Nat) (v : Int) : Prop :=
  (v = -1 ∧ ∀ j, k ≤ j → j < n → fit j = false) ∨ ∃ i, k ≤ i ∧ i < n ∧ v = (i : Int) ∧ fit i = true ∧ ∀ j, k ≤ j → j < n → fit j = true → cs[i]?.getD 0 < cs[j]?.getD 0 ∨ (cs[i]?.getD 0 = cs[j]?.getD 0 ∧ i ≤ j)
theorem BestF.skip {fit : Nat → Bool} {cs : List Int} {k n : Nat} {v : Int} (h : BestF fit cs (k + 1) n v) (hf : fit k = false) : BestF fit cs k n v := by
  rcases h with ⟨e, h⟩ | ⟨i, h1, h2, h3, h4, h5⟩
  · refine .inl ⟨e, fun j h1 h2 => ?_⟩
    by_cases e : j = k
    · rw [e]; exact hf
    · exact h j (by omega) h2
  · refine .inr ⟨i, by omega, h2, h3, h4, fun j q1 q2 q3 => ?_⟩
    by_cases e : j = k
    · rw [e, hf] at q3; cases q3
    · exact h5 j (by omega) q2 q3
theorem BestF.first {fit : Nat → Bool} {cs : List Int} {k n : Nat} (h : BestF fit cs (k + 1) n (-1)) (hk : k < n) (hf : fit k = true) : BestF fit cs k n (k : Int) := by
  rcases h with ⟨_, h⟩ | ⟨i, h1, h2, h3, h4, h5⟩
  · refine .inr ⟨k, Nat.le_refl _, hk, rfl, hf, fun j q1 q2 q3 => ?_⟩
    by_cases e : j = k
    · rw [e]; exact .inr ⟨rfl, Nat.le_refl _⟩
    · rw [h j (by omega) q2] at q3; cases q3
  · omega
theorem BestF.take {fit : Nat → Bool} {cs : List Int} {k n i : Nat} (h : BestF fit cs (k + 1) n (i : Int)) (hk : k < n) (hf : fit k = true) (hc : cs[k]?.getD 0 ≤ cs[i]?.getD 0) : BestF fit cs k n (k : Int) := by
  rcases h with ⟨e, h⟩ | ⟨i', h1, h2, h3, h4, h5⟩
  · omega
  · have : i = i' := by omega
    subst this
    refine .inr ⟨k, Nat.le_refl _, hk, rfl, hf, fun j q1 q2 q3 => ?_⟩
    by_cases e : j = k
    · rw [e]; exact .inr ⟨rfl, Nat.le_refl _⟩
    · have := h5 j (by omega) q2 q3; omega
theorem BestF.stay {fit : Nat → Bool} {cs : List Int} {k n i : Nat} (h : BestF fit cs (k + 1) n (i : Int)) (hc : cs[i]?.getD 0 < cs[k]?.getD 0) : BestF fit cs k n (i : Int) := by
  rcases h with ⟨e, h⟩ | ⟨i', h1, h2, h3, h4, h5⟩
  · omega
  · have : i = i' := by omega
    subst this
    refine .inr ⟨i, by omega, h2, rfl, h4, fun j q1 q2 q3 => ?_⟩
    by_cases e : j = k
    · rw [e]; exact .inl hc
    · exact h5 j (by omega) q2 q3

set_option maxHeartbeats 4000000 in
set_option maxRecDepth 100000 in
theorem pickVictim_spec (a : Option Addr) (n ca : Nat) (xs : List Int) (act sb : Int) (w : World) (ha : IRow .i64 w a n xs) (hn : n ≤ 2097152) :
    Calls Try.prog 45 #[.slice a n ca, .int .i64 act, .int .i64 sb] w fun e w' => ∃ v, e = .returned (.int .i64 v) ∧ Best (fitV xs act sb) xs n v ∧ ∃ d, w' = w.drewN d := by
  have HA : Hid (IRow .i64 w a n xs) := ha
  clear ha
  go_enter Try.func45, Try.ntmps45
  go_wp2
  go_loopw [7, 8] (fun b i wr => ∃ (k : Nat) (v : Int), k ≤ n ∧ b = .int .i64 v ∧ i = .int .i64 ((k : Int) - 1) ∧ BestF (fitV xs act sb) xs k n v ∧ ∃ d, wr = w.drewN d) (fun _ i _ => (intOf i + 1).toNat)
  case atStart => exact ⟨n, -1, Nat.le_refl _, rfl, rfl, .inl ⟨rfl, fun j h1 h2 => by omega⟩, 0, rfl⟩
  case round =>
    obtain ⟨k, v, hk, rfl, rfl, hbest, d, rfl⟩ := hrel
    cases k with
    | zero =>
      have HF : Hid (Best (fitV xs act sb) xs n v) := by
        rcases hbest with ⟨e, h⟩ | ⟨i, h1, h2, h3, h4, h5⟩
        · exact .inl ⟨e, fun j hj => h j (Nat.zero_le _) hj⟩
        · exact .inr ⟨i, h2, h3, h4, fun j hj => h5 j (Nat.zero_le _) hj⟩
      clear hbest
      go_wp2
      go_ret
      exact ⟨_, rfl, HF.out, d, rfl⟩
    | succ k =>
      obtain ⟨g, off, rfl, hcx⟩ := HA.out.2.resolve_left (by omega)
      have c1 := hcx k (by omega)
      have ek : ((k + 1 : Nat) : Int) - 1 = (k : Int) := by omega
      rw [ek]
      have hlt' : (k : Int) < (n : Int) := by omega
      have h0' : (0 : Int) ≤ (k : Int) := by omega
      have hfit : fitV xs act sb k = (decide ((k : Int) ≠ act) && (decide (1 ≤ xs[k]?.getD 0) && decide (xs[k]?.getD 0 < sb))) := rfl
      have HBest : Hid (BestF (fitV xs act sb) xs (k + 1) n v) := hbest
      have hv : v = -1 ∨ ∃ i : Nat, i < n ∧ v = (i : Int) := by
        rcases hbest with ⟨e, _⟩ | ⟨i, h1, h2, h3, h4, h5⟩
        · exact .inl e
        · exact .inr ⟨i, h2, h3⟩
      clear hbest
      by_cases ha' : (k : Int) = act
      · have u1 : ((k : Int) != act) = false := by simp [ha']
        have HF : Hid (BestF (fitV xs act sb) xs k n v) := HBest.out.skip (by rw [hfit]; simp [ha'])
        clear ha' hfit hcx hv
        go_wp2
        go_quiet (fail)
        go_wp2
        go_roundw
        case rel => exact ⟨k, v, by omega, rfl, by go_num, HF.out, _, rfl⟩
        case measure => simp [intOf]
      · have u1 : ((k : Int) != act) = true := by simp [ha']
        have HA' : Hid (¬ (k : Int) = act) := ha'
        clear ha'
        by_cases hx : xs[k]?.getD 0 < 1
        · have u2 : ¬ (1 ≤ xs[k]?.getD 0) := by omega
          have u4 : decide (1 ≤ xs[k]?.getD 0) = false := decide_eq_false u2
          have HF : Hid (BestF (fitV xs act sb) xs k n v) := HBest.out.skip (by rw [hfit]; simp [u2])
          clear hfit hcx hv
          go_wp2
          go_quiet (fail)
          go_wp2
          go_roundw
          case rel => exact ⟨k, v, by omega, rfl, by go_num, HF.out, _, rfl⟩
          case measure => simp [intOf]
        by_cases hs : xs[k]?.getD 0 < sb
        · have u2 : 1 ≤ xs[k]?.getD 0 := by omega
          have HF0 : Hid (fitV xs act sb k = true) := by show _ = true; rw [hfit]; simp [HA'.out, u2, hs]
          rcases hv with rfl | ⟨i, hi, rfl⟩
          · have HF : Hid (BestF (fitV xs act sb) xs k n (k : Int)) := HBest.out.first (by omega) HF0.out
            clear hfit hcx
            go_wp2
            go_quiet (fail)
            go_wp2
            go_roundw
            case rel => exact ⟨k, (k : Int), by omega, rfl, by go_num, HF.out, _, rfl⟩
            case measure => simp [intOf]
          · have c2 := hcx i hi
            have hi' : (i : Int) < (n : Int) := by omega
            have hi0 : (0 : Int) ≤ (i : Int) := by omega
            by_cases hc : xs[k]?.getD 0 ≤ xs[i]?.getD 0
            · have HF : Hid (BestF (fitV xs act sb) xs k n (k : Int)) := HBest.out.take (by omega) HF0.out hc
              clear hfit hcx
              go_wp2
              go_quiet (fail)
              go_wp2
              go_roundw
              case rel => exact ⟨k, (k : Int), by omega, rfl, by go_num, HF.out, _, rfl⟩
              case measure => simp [intOf]
            · have HF : Hid (BestF (fitV xs act sb) xs k n (i : Int)) := HBest.out.stay (by omega)
              clear hfit hcx
              go_wp2
              go_quiet (fail)
              go_wp2
              go_roundw
              case rel => exact ⟨k, (i : Int), by omega, rfl, by go_num, HF.out, _, rfl⟩
              case measure => simp [intOf]
        · have u2 : 1 ≤ xs[k]?.getD 0 := by omega
          have u3 : sb ≤ xs[k]?.getD 0 := by omega
          have u4 : decide (xs[k]?.getD 0 < sb) = false := decide_eq_false hs
          have HF : Hid (BestF (fitV xs act sb) xs k n v) := HBest.out.skip (by rw [hfit]; simp [hs])
          clear hfit hcx hv
          go_wp2
          go_quiet (fail)
          go_wp2
          go_roundw
          case rel => exact ⟨k, v, by omega, rfl, by go_num, HF.out, _, rfl⟩
          case measure => simp [intOf]
set_option maxHeartbeats 4000000 in
theorem law_pickVictim (a : Option Addr) (n ca : Nat) (xs : List Int) (act sb : Int) (w : World) (ha : IRow .i64 w a n xs) (hn : (n : Int) ≤ 9223372036854775807) :
    Calls Try.prog 10 #[.slice a n ca, .int .i64 act, .int .i64 sb] w fun e w' => e = .returned (.bool true) ∧ Below w.heap.size w w' := by
  by_cases hbig : 1048576 < n
  · go_enter Try.func10, Try.ntmps10
    go_wp2
    go_ret
    exact ⟨rfl, Below.refl _ _⟩
  have hn2 : n ≤ 2097152 := by omega
  have HA : Hid (IRow .i64 w a n xs) := ha
  clear ha
  go_enter Try.func10, Try.ntmps10
  go_wp2_with fail
  refine (toInt64S_any _ _ _ xs _ HA.out hn2).mono ?_
  rintro e w1 ⟨rfl, r1, hb1, z1⟩
  have HB1 : Hid (Below w.heap.size w w1) := hb1
  have r1' := r1.read
  clear r1 hb1
  go_wp2_with fail
  refine (pickVictim_spec _ _ _ xs act sb _ r1' hn2).mono ?_
  rintro e w2 ⟨v, rfl, hbest, d2, rfl⟩
  have HB1 : Hid (Below w.heap.size w (w1.drewN d2)) := below_drewN HB1.out d2
  have HV : Hid (vicN xs act sb n = v) := Best.unique (best_victim xs act sb n) hbest
  clear hbest r1'
  go_wp2_with fail
  refine (toInt64S_any _ _ _ xs _ (HA.out.below HB1.out) hn2).mono ?_
  rintro e w3 ⟨rfl, r3, hb3, z3⟩
  have HB3 : Hid (Below w.heap.size w w3) := HB1.out.trans (hb3.mono HB1.out.size)
  clear hb3 HB1
  go_wp2_with fail
  refine (pickVictim_impl _ _ _ xs act sb _ r3.read hn2).mono ?_
  rintro e w4 ⟨rfl, hb4⟩
  rw [HV.out]
  have HB4 : Hid (Below w.heap.size w w4) := HB3.out.trans (hb4.mono HB3.out.size)
  have r4 := r3.below hb4
  have hne : (v != v) = false := by simp
  clear hb4 r3 HB3
  go_wp2_with fail
  refine (toInt64S_any _ _ _ xs _ (HA.out.below HB4.out) hn2).mono ?_
  rintro e w5 ⟨rfl, r5, hb5, z5⟩
  have HB5 : Hid (Below w.heap.size w w5) := HB4.out.trans (hb5.mono HB4.out.size)
  have r4' := r4.below hb5
  clear hb5 r4 HB4
  go_wp2_with fail
  refine (eqInt64S_any _ _ _ _ _ _ xs xs _ r4'.read r5.read hn2 hn2).mono ?_
  rintro e w6 ⟨rfl, d6, rfl⟩
  rw [show decide (xs = xs) = true from by simp]
  clear r4' r5
  go_wp2
  go_ret
  exact ⟨rfl, below_drewN HB5.out _⟩
end Go.Proofs.Ytkkammbfomiofac
