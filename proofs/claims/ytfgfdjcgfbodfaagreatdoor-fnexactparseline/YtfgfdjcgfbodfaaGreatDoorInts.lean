/-
  Lists of int64: szInt64S, toInt64S, eqInt64S, markInt64S.
-/
import Derived.Test.YtfgfdjcgfbodfaaGreatDoorMark
namespace Go.Proofs.YtfgfdjcgfbodfaaGreatDoor
open Go.RowKit
set_option linter.unusedSimpArgs false
set_option linter.unusedVariables false

theorem info2 : (Tryz.prog.info? 2).map (fun i => (i.zero, i.size, i.bytes)) = some (some (.int .i64 0), 1, 8) := by kernel_rfl
def markI (k : Int) (n : Nat) : List Int := (List.range n).map fun i : Nat => k + (i : Int)
theorem markI_len (k : Int) (n : Nat) : (markI k n).length = n := by simp [markI]
theorem markI_at (k : Int) (n i : Nat) (h : i < n) : (markI k n)[i]?.getD 0 = k + (i : Int) := by simp [markI, h]
theorem step_markI (k : Int) (xs : List Int) (j i : Nat) :
    (if i < j + 1 then (k + (i : Int)) else xs[i]?.getD 0) = if i = j then (k + (j : Int)) else if i < j then (k + (i : Int)) else xs[i]?.getD 0 := by
  by_cases e : i = j
  · subst e; simp
  · rw [if_neg e]; by_cases h : i < j
    · rw [if_pos h, if_pos (by omega)]
    · rw [if_neg h, if_neg (by omega)]

set_option maxHeartbeats 1000000 in
theorem eqInt64S_any (a b : Option Addr) (n m ca cb : Nat) (xs ys : List Int) (w : World) (ha : IRow .i64 w a n xs) (hb : IRow .i64 w b m ys) (hn : n ≤ 2097152) (hm : m ≤ 2097152) :
    Calls Tryz.prog 19 #[.slice a n ca, .slice b m cb] w fun e w' => e = .returned (.bool (decide (xs = ys))) ∧ ∃ d, w' = w.drewN d := by
  obtain ⟨hx, ha⟩ := ha
  obtain ⟨hy, hb⟩ := hb
  by_cases hnm : n = m
  · subst hnm
    rcases ha with h0 | ⟨g, off, rfl, hc⟩
    · subst h0
      have hf : xs = ys := by rw [List.length_eq_zero_iff.1 hx, List.length_eq_zero_iff.1 hy]
      have HF : Hid (decide (xs = ys) = true) := by show _ = true; simp [hf]
      clear hf hb
      go_enter Tryz.func19, Tryz.ntmps19
      go_wp2
      refine wp_loop_rounds 1 ?_
      rw [rounds_succ]
      go_wp2
      go_ret
      exact ⟨ret_boolB HF.out.symm, 0, rfl⟩
    · rcases hb with h0 | ⟨g', off', rfl, hc'⟩
      · subst h0
        have hf : xs = ys := by rw [List.length_eq_zero_iff.1 hx, List.length_eq_zero_iff.1 hy]
        have HF : Hid (decide (xs = ys) = true) := by show _ = true; simp [hf]
        clear hf hc
        go_enter Tryz.func19, Tryz.ntmps19
        go_wp2
        refine wp_loop_rounds 1 ?_
        rw [rounds_succ]
        go_wp2
        go_ret
        exact ⟨ret_boolB HF.out.symm, 0, rfl⟩
      · have hne : ((n : Int) != (n : Int)) = false := by simp
        have HX : Hid (xs.length = n) := hx
        have HY : Hid (ys.length = n) := hy
        clear hx hy
        go_enter Tryz.func19, Tryz.ntmps19
        go_wp2
        go_loopw [5] (fun i wr => ∃ k : Nat, k ≤ n ∧ i = .int .i64 k ∧ xs.take k = ys.take k ∧ ∃ d, wr = w.drewN d) (fun i _ => n - (intOf i).toNat)
        case atStart => exact ⟨0, Nat.zero_le _, rfl, rfl, 0, rfl⟩
        case round =>
          obtain ⟨k, hk, rfl, htk, d, rfl⟩ := hrel
          have HT : Hid (xs.take k = ys.take k) := htk
          clear htk
          by_cases hlt : k < n
          · have c1 := hc k hlt
            have c2 := hc' k hlt
            have hlt' : (k : Int) < (n : Int) := by omega
            have h0' : (0 : Int) ≤ (k : Int) := by omega
            have HC := hc
            by_cases heq : xs[k]?.getD 0 = ys[k]?.getD 0
            · have HS : Hid (xs.take (k + 1) = ys.take (k + 1)) := take_eq_succ (by rw [HX.out]; exact hlt) (by rw [HY.out]; exact hlt) HT.out heq
              rw [heq] at c1
              clear heq hc hc' HC
              have hx2 : (ys[k]?.getD 0 != ys[k]?.getD 0) = false := by simp
              go_wp2
              go_quiet (fail)
              go_wp2
              go_roundw
              case rel => exact ⟨k + 1, by omega, by go_num, HS.out, _, rfl⟩
              case measure => simp [intOf]; omega
            · have HF : Hid (decide (xs = ys) = false) := by
                show _ = false
                simp only [decide_eq_false_iff_not]
                intro e; exact heq (by rw [e])
              have hx2 : (xs[k]?.getD 0 != ys[k]?.getD 0) = true := by simpa using heq
              clear heq hc hc' HC
              go_wp2
              go_quiet (fail)
              go_wp2
              go_ret
              exact ⟨ret_boolB HF.out.symm, _, World.drewN_drewN _ _ _⟩
          · have HF : Hid (decide (xs = ys) = true) := by
              show _ = true
              have := HT.out
              rw [List.take_of_length_le (by rw [HX.out]; omega), List.take_of_length_le (by rw [HY.out]; omega)] at this
              simp [this]
            clear hc hc'
            go_wp2
            go_ret
            exact ⟨ret_boolB HF.out.symm, d, rfl⟩
  · have HF : Hid (decide (xs = ys) = false) := by
      show _ = false
      simp only [decide_eq_false_iff_not]
      intro e; rw [e] at hx; omega
    have hne : ((n : Int) != (m : Int)) = true := by simp; omega
    clear ha hb
    go_enter Tryz.func19, Tryz.ntmps19
    go_wp2
    go_ret
    exact ⟨ret_boolB HF.out.symm, 0, rfl⟩

set_option maxHeartbeats 1000000 in
theorem markInt64S_any (a : Option Addr) (n ca : Nat) (k : Int) (G : Nat → Prop) (xs : List Int) (w : World) (ha : Row .i64 G w a n xs) (hn : n ≤ 2097152) (h0 : 0 ≤ k) (h1 : k ≤ 35184372088832) :
    Calls Tryz.prog 20 #[.slice a n ca, .int .i64 k] w fun e w' => e = .returned (.int .i64 (k + n)) ∧ Row .i64 G w' a n (markI k n) ∧ Kept G w w' := by
  obtain ⟨hx, ha⟩ := ha
  rcases ha with h0' | ⟨g, off, rfl, hg, hc⟩
  · subst h0'
    go_enter Tryz.func20, Tryz.ntmps20
    go_wp2
    refine wp_loop_rounds 1 ?_
    rw [rounds_succ]
    go_wp2
    go_ret
    exact ⟨ret_int (by omega), ⟨rfl, .inl rfl⟩, Kept.refl _ _⟩
  · have HX : Hid (xs.length = n) := hx
    have HG : Hid (G g) := hg
    clear hx hg
    go_enter Tryz.func20, Tryz.ntmps20
    go_wp2
    go_loopw [1, 5] (fun kk i wr => ∃ j : Nat, j ≤ n ∧ kk = .int .i64 (k + j) ∧ i = .int .i64 j ∧ Cells .i64 wr g off n (fun i => if i < j then (k + (i : Int)) else xs[i]?.getD 0) ∧ Kept G w wr) (fun _ i _ => n - (intOf i).toNat)
    case atStart => exact ⟨0, Nat.zero_le _, by simp, rfl, by intro i hi; simpa using hc i hi, Kept.refl _ _⟩
    case round =>
      obtain ⟨j, hj, rfl, rfl, hf, hkp⟩ := hrel
      by_cases hlt : j < n
      · have c2 := (hf j hlt).1
        have c3 := (hf j hlt).2
        have hf' := hf.set j hlt ((k + (j : Int))) (fun i => if i < j + 1 then (k + (i : Int)) else xs[i]?.getD 0) (fun i _ => step_markI k xs j i)
        have hk' := hkp.trans (Kept.setCell wr ⟨g, off + j, none⟩ (.int .i64 ((k + (j : Int)))) G HG.out)
        clear hf hc hkp
        simp only [Nat.lt_irrefl, if_false] at c2
        go_wp2
        go_roundw
        case rel => exact ⟨j + 1, by omega, by go_num, by go_num, hf', hk'⟩
        case measure => simp [intOf]; omega
      · have hjn : j = n := by omega
        subst hjn
        have hfin : Row .i64 G wr (some ⟨g, off, none⟩) j (markI k j) := hf.row HG.out (markI_len _ _) (by intro i hi; rw [markI_at _ _ _ hi, if_pos hi])
        clear hf hc
        go_wp2
        go_ret
        exact ⟨ret_int rfl, hfin, hkp⟩
end Go.Proofs.YtfgfdjcgfbodfaaGreatDoor
