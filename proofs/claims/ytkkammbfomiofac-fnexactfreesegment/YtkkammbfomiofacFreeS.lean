/-
  FreeSegment, both sides; FnExactFreeSegment: the law's walk.
-/
import Derived.Test.YtkkammbfomiofacCand
namespace Go.Proofs.Ytkkammbfomiofac
open Go.RowKit
set_option linter.unusedSimpArgs false
set_option linter.unusedVariables false

/-- The number that FreeSegment answers. -/
def freeN (xs : List Int) (act : Int) (n : Nat) : Int := numO (bestO ltN (candL (fitF xs act) xs n))

set_option maxHeartbeats 1000000 in
theorem freeSegment_impl (a : Option Addr) (n ca : Nat) (xs : List Int) (act : Int) (w : World) (ha : IRow .i64 w a n xs) (hn : n ≤ 2097152) :
    Calls Try.prog 44 #[.slice a n ca, .int .i64 act] w fun e w' => e = .returned (.int .i64 (freeN xs act n)) ∧ Below w.heap.size w w' := by
  have hc := candidates_free a n ca xs act w ha hn
  have hl := candL_len (fitF xs act) xs n
  have hl2 : (candL (fitF xs act) xs n).length ≤ 2097152 := by omega
  have hB : ∀ (b : Option Addr) (c : Nat) (v : World), NRead v b (candL (fitF xs act) xs n).length (candL (fitF xs act) xs n) → Calls Try.prog 72 #[.slice b (candL (fitF xs act) xs n).length c, .func (.func 74) #[] #[]] v fun e w' => e = .returned (.int .i64 (freeN xs act n)) ∧ Below v.heap.size v w' := fun b c v hv => choose_low b _ c _ v hv hl2
  generalize candL (fitF xs act) xs n = l at *
  generalize freeN xs act n = r at *
  clear ha hl hl2
  go_enter Try.func44, Try.ntmps44
  go_wp2_with fail
  refine hc.mono ?_
  rintro e w2 ⟨s, rfl, own2, hb2⟩
  obtain ⟨b, c, rfl, hr⟩ := owns_pread own2
  clear own2 hc
  go_wp2_with fail
  refine (hB b c w2 hr).mono ?_
  rintro e w3 ⟨rfl, hb3⟩
  have hb4 := hb2.trans (hb3.mono hb2.size)
  clear hb2 hb3 hB hr
  go_wp2
  go_ret
  exact ⟨rfl, hb4⟩

set_option maxHeartbeats 1000000 in
theorem freeSegment_spec (a : Option Addr) (n ca : Nat) (xs : List Int) (act : Int) (w : World) (ha : IRow .i64 w a n xs) (hn : n ≤ 2097152) :
    Calls Try.prog 42 #[.slice a n ca, .int .i64 act] w fun e w' => ∃ v, e = .returned (.int .i64 v) ∧ Best (fitF xs act) xs n v ∧ w' = w := by
  have HA : Hid (IRow .i64 w a n xs) := ha
  clear ha
  go_enter Try.func42, Try.ntmps42
  go_wp2
  go_loop [5] (fun i => ∃ k : Nat, k ≤ n ∧ i = .int .i64 k ∧ ∀ j, j < k → fitF xs act j = false) (fun i => n - (intOf i).toNat)
  case atStart => exact ⟨0, Nat.zero_le _, rfl, fun j hj => by omega⟩
  case round =>
    obtain ⟨k, hk, rfl, hno⟩ := hrel
    have HNo : Hid (∀ j, j < k → fitF xs act j = false) := hno
    clear hno
    by_cases hlt : k < n
    · obtain ⟨g, off, rfl, hcx⟩ := HA.out.2.resolve_left (by omega)
      have c1 := hcx k hlt
      have hfit : fitF xs act k = (decide ((k : Int) ≠ act) && decide (xs[k]?.getD 0 = 0)) := rfl
      have HB : Hid (xs[k]?.getD 0 = xs[k]?.getD 0) := rfl
      by_cases hx : xs[k]?.getD 0 = 0
      · have HX : Hid (xs[k]?.getD 0 = 0) := hx
        rw [hx] at c1 hfit
        clear hx hcx HB
        by_cases ha' : (k : Int) = act
        · have u1 : ((k : Int) != act) = false := by simp [ha']
          have HF : Hid (fitF xs act k = false) := by show _ = false; rw [hfit]; simp [ha']
          clear ha' hfit
          go_wp2
          go_round
          case rel => exact ⟨k + 1, by omega, by go_num, fun j hj => by
            by_cases e : j = k
            · rw [e]; exact HF.out
            · exact HNo.out j (by omega)⟩
          case measure => simp [intOf]; omega
        · have u1 : ((k : Int) != act) = true := by simp [ha']
          have HF : Hid (Best (fitF xs act) xs n (k : Int)) := by
            refine .inr ⟨k, hlt, rfl, by rw [hfit]; simp [ha'], fun j hj hj2 => .inr ⟨?_, ?_⟩⟩
            · simp only [fitF, Bool.and_eq_true, decide_eq_true_eq] at hj2
              rw [HX.out, hj2.2]
            · by_cases e : j < k
              · rw [HNo.out j e] at hj2; cases hj2
              · omega
          clear ha' hfit
          go_wp2
          go_ret
          exact ⟨_, rfl, HF.out, rfl⟩
      · have u2 : (xs[k]?.getD 0 == 0) = false := by simpa using hx
        have HF : Hid (fitF xs act k = false) := by show _ = false; rw [hfit]; simp [hx]
        clear hx hcx HB hfit
        go_wp2
        go_round
        case rel => exact ⟨k + 1, by omega, by go_num, fun j hj => by
          by_cases e : j = k
          · rw [e]; exact HF.out
          · exact HNo.out j (by omega)⟩
        case measure => simp [intOf]; omega
    · have HF : Hid (Best (fitF xs act) xs n (-1)) := .inl ⟨rfl, fun j hj => HNo.out j (by omega)⟩
      go_wp2
      go_ret
      exact ⟨_, rfl, HF.out, rfl⟩

set_option maxHeartbeats 4000000 in
theorem law_freeSegment (a : Option Addr) (n ca : Nat) (xs : List Int) (act : Int) (w : World) (ha : IRow .i64 w a n xs) (hn : (n : Int) ≤ 9223372036854775807) :
    Calls Try.prog 9 #[.slice a n ca, .int .i64 act] w fun e w' => e = .returned (.bool true) ∧ Below w.heap.size w w' := by
  by_cases hbig : 1048576 < n
  · go_enter Try.func9, Try.ntmps9
    go_wp2
    go_ret
    exact ⟨rfl, Below.refl _ _⟩
  have hn2 : n ≤ 2097152 := by omega
  have HA : Hid (IRow .i64 w a n xs) := ha
  clear ha
  go_enter Try.func9, Try.ntmps9
  go_wp2_with fail
  refine (toInt64S_any _ _ _ xs _ HA.out hn2).mono ?_
  rintro e w1 ⟨rfl, r1, hb1, z1⟩
  have HB1 : Hid (Below w.heap.size w w1) := hb1
  have r1' := r1.read
  clear r1 hb1
  go_wp2_with fail
  refine (freeSegment_spec _ _ _ xs act _ r1' hn2).mono ?_
  rintro e w2 ⟨v, rfl, hbest, hw⟩
  have hw' := hw.symm
  subst hw'
  have HV : Hid (freeN xs act n = v) := Best.unique (best_free xs act n) hbest
  clear hbest r1'
  go_wp2_with fail
  refine (toInt64S_any _ _ _ xs _ (HA.out.below HB1.out) hn2).mono ?_
  rintro e w3 ⟨rfl, r3, hb3, z3⟩
  have HB3 : Hid (Below w.heap.size w w3) := HB1.out.trans (hb3.mono HB1.out.size)
  clear hb3 HB1
  go_wp2_with fail
  refine (freeSegment_impl _ _ _ xs act _ r3.read hn2).mono ?_
  rintro e w4 ⟨rfl, hb4⟩
  rw [HV.out]
  have HB4 : Hid (Below w.heap.size w w4) := HB3.out.trans (hb4.mono HB3.out.size)
  have r4 := r3.below hb4
  have hne : (v != v) = false := by simp
  clear hb4 r3 HB3
  go_wp2_with fail
  refine (toInt64S_any _ _ _ xs _ (HA.out.below HB4.out) hn2).mono ?_
  rintro e w5 ⟨rfl, r5, hb5, z5⟩
  have HB5 : Hid (Below w.heap.size w w5) := HB4.out.trans (hb5.mono HB4.out.size)
  have r4' := r4.below hb5
  clear hb5 r4 HB4
  go_wp2_with fail
  refine (eqInt64S_any _ _ _ _ _ _ xs xs _ r4'.read r5.read hn2 hn2).mono ?_
  rintro e w6 ⟨rfl, d6, rfl⟩
  rw [show decide (xs = xs) = true from by simp]
  clear r4' r5
  go_wp2
  go_ret
  exact ⟨rfl, below_drewN HB5.out _⟩
end Go.Proofs.Ytkkammbfomiofac
