/-
  Rows of numbers in memory, and the law package's functions over lists of bytes: eqByteS, markByteS, heldByteS, toByteS, szByteS.
-/
import Derived.Test.YtfgfdjcgfbodfaaGreatDoorProg
import Derived.WalkKit
import Derived.WalkSpells
import Derived.WalkLawsBesides
import Derived.Deep.QuietTactic
import Derived.BigQuiet
import Derived.WalkSmall
namespace Go.Proofs.YtfgfdjcgfbodfaaGreatDoor
open Go.RowKit

theorem ret_boolB {a b : Bool} (h : a = b) : Ending.returned (.bool a) = .returned (.bool b) := by rw [h]
theorem ret_int {k : IntKind} {a b : Int} (h : a = b) : Ending.returned (.int k a) = .returned (.int k b) := by rw [h]

/-- At a lie n numbers of kind k: xs. -/
def IRow (k : IntKind) (w : World) (a : Option Addr) (n : Nat) (xs : List Int) : Prop :=
  xs.length = n ∧ (n = 0 ∨ ∃ g off, a = some ⟨g, off, none⟩ ∧ ∀ i, i < n → w.cell? ⟨g, off + i, none⟩ = some (.int k (xs[i]?.getD 0)))

theorem IRow.below {k : IntKind} {w w' : World} {a : Option Addr} {n : Nat} {xs : List Int} (h : IRow k w a n xs) (hb : Below w.heap.size w w') : IRow k w' a n xs := by
  refine ⟨h.1, ?_⟩
  rcases h.2 with h0 | ⟨g, off, rfl, hc⟩
  · exact .inl h0
  · by_cases hn : n = 0
    · exact .inl hn
    · refine .inr ⟨g, off, rfl, fun i hi => ?_⟩
      rw [hb.cell (World.block_lt_of_cell? w _ (hc i hi))]; exact hc i hi

theorem getD_eq (xs : List Int) (i : Nat) (h : i < xs.length) : xs[i]?.getD 0 = xs[i] := by simp [h]

theorem take_eq_succ {xs ys : List Int} {k : Nat} (h : k < xs.length) (h' : k < ys.length) (e : xs.take k = ys.take k) (e' : xs[k]?.getD 0 = ys[k]?.getD 0) : xs.take (k + 1) = ys.take (k + 1) := by
  rw [getD_eq _ _ h, getD_eq _ _ h'] at e'
  rw [List.take_succ_eq_append_getElem h, List.take_succ_eq_append_getElem h', e, e']

set_option maxHeartbeats 1000000 in
theorem eqByteS_any (a b : Option Addr) (n m ca cb : Nat) (xs ys : List Int) (w : World) (ha : IRow .u8 w a n xs) (hb : IRow .u8 w b m ys) (hn : n ≤ 2097152) (hm : m ≤ 2097152) :
    Calls Tryz.prog 8 #[.slice a n ca, .slice b m cb] w fun e w' => e = .returned (.bool (decide (xs = ys))) ∧ ∃ d, w' = w.drewN d := by
  obtain ⟨hx, ha⟩ := ha
  obtain ⟨hy, hb⟩ := hb
  by_cases hnm : n = m
  · subst hnm
    rcases ha with h0 | ⟨g, off, rfl, hc⟩
    · subst h0
      have hf : xs = ys := by rw [List.length_eq_zero_iff.1 hx, List.length_eq_zero_iff.1 hy]
      have HF : Hid (decide (xs = ys) = true) := by show _ = true; simp [hf]
      clear hf hb
      go_enter Tryz.func8, Tryz.ntmps8
      go_wp2
      refine wp_loop_rounds 1 ?_
      rw [rounds_succ]
      go_wp2
      go_ret
      exact ⟨ret_boolB HF.out.symm, 0, rfl⟩
    · rcases hb with h0 | ⟨g', off', rfl, hc'⟩
      · subst h0
        have hf : xs = ys := by rw [List.length_eq_zero_iff.1 hx, List.length_eq_zero_iff.1 hy]
        have HF : Hid (decide (xs = ys) = true) := by show _ = true; simp [hf]
        clear hf hc
        go_enter Tryz.func8, Tryz.ntmps8
        go_wp2
        refine wp_loop_rounds 1 ?_
        rw [rounds_succ]
        go_wp2
        go_ret
        exact ⟨ret_boolB HF.out.symm, 0, rfl⟩
      · have hne : ((n : Int) != (n : Int)) = false := by simp
        have HX : Hid (xs.length = n) := hx
        have HY : Hid (ys.length = n) := hy
        clear hx hy
        go_enter Tryz.func8, Tryz.ntmps8
        go_wp2
        go_loopw [5] (fun i wr => ∃ k : Nat, k ≤ n ∧ i = .int .i64 k ∧ xs.take k = ys.take k ∧ ∃ d, wr = w.drewN d) (fun i _ => n - (intOf i).toNat)
        case atStart => exact ⟨0, Nat.zero_le _, rfl, rfl, 0, rfl⟩
        case round =>
          obtain ⟨k, hk, rfl, htk, d, rfl⟩ := hrel
          have HT : Hid (xs.take k = ys.take k) := htk
          clear htk
          by_cases hlt : k < n
          · have c1 := hc k hlt
            have c2 := hc' k hlt
            have hlt' : (k : Int) < (n : Int) := by omega
            have h0' : (0 : Int) ≤ (k : Int) := by omega
            have HC := hc
            by_cases heq : xs[k]?.getD 0 = ys[k]?.getD 0
            · have HS : Hid (xs.take (k + 1) = ys.take (k + 1)) := take_eq_succ (by rw [HX.out]; exact hlt) (by rw [HY.out]; exact hlt) HT.out heq
              rw [heq] at c1
              clear heq hc hc' HC
              have hx2 : (ys[k]?.getD 0 != ys[k]?.getD 0) = false := by simp
              go_wp2
              go_quiet (fail)
              go_wp2
              go_roundw
              case rel => exact ⟨k + 1, by omega, by go_num, HS.out, _, rfl⟩
              case measure => simp [intOf]; omega
            · have HF : Hid (decide (xs = ys) = false) := by
                show _ = false
                simp only [decide_eq_false_iff_not]
                intro e; exact heq (by rw [e])
              have hx2 : (xs[k]?.getD 0 != ys[k]?.getD 0) = true := by simpa using heq
              clear heq hc hc' HC
              go_wp2
              go_quiet (fail)
              go_wp2
              go_ret
              exact ⟨ret_boolB HF.out.symm, _, World.drewN_drewN _ _ _⟩
          · have HF : Hid (decide (xs = ys) = true) := by
              show _ = true
              have := HT.out
              rw [List.take_of_length_le (by rw [HX.out]; omega), List.take_of_length_le (by rw [HY.out]; omega)] at this
              simp [this]
            clear hc hc'
            go_wp2
            go_ret
            exact ⟨ret_boolB HF.out.symm, d, rfl⟩
  · have HF : Hid (decide (xs = ys) = false) := by
      show _ = false
      simp only [decide_eq_false_iff_not]
      intro e; rw [e] at hx; omega
    have hne : ((n : Int) != (m : Int)) = true := by simp; omega
    clear ha hb
    go_enter Tryz.func8, Tryz.ntmps8
    go_wp2
    go_ret
    exact ⟨ret_boolB HF.out.symm, 0, rfl⟩
end Go.Proofs.YtfgfdjcgfbodfaaGreatDoor
