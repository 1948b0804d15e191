/-
  The law's helpers over an InodeResult: compare, mark, hold.
-/
import Derived.Test.YtkkammbfomiofabDoorInts
namespace Go.Proofs.YtkkammbfomiofabDoor
open Go.RowKit
set_option linter.unusedSimpArgs false
set_option linter.unusedVariables false

set_option maxHeartbeats 1000000 in
theorem heldInt64S_i (a : Option Addr) (n ca : Nat) (k : Int) (w : World) (ha : IRow .i64 w a n (markI k n)) (hn : n ≤ 2097152) (h0 : 0 ≤ k) (h1 : k ≤ 35184372088832) :
    Calls Tryd.prog 35 #[.slice a n ca, .int .i64 k] w fun e w' => e = .returned (.int .i64 (k + n)) ∧ w' = w := by
  obtain ⟨hx, ha⟩ := ha
  clear hx
  rcases ha with h0' | ⟨g, off, rfl, hc⟩
  · subst h0'
    go_enter Tryd.func35, Tryd.ntmps35
    go_wp2
    refine wp_loop_rounds 1 ?_
    rw [rounds_succ]
    go_wp2
    go_ret
    exact ⟨ret_int (by omega), rfl⟩
  · go_enter Tryd.func35, Tryd.ntmps35
    go_wp2
    go_loop [1, 5] (fun kk i => ∃ j : Nat, j ≤ n ∧ kk = .int .i64 (k + j) ∧ i = .int .i64 j) (fun _ i => n - (intOf i).toNat)
    case atStart => exact ⟨0, Nat.zero_le _, by simp, rfl⟩
    case round =>
      obtain ⟨j, hj, rfl, rfl⟩ := hrel
      by_cases hlt : j < n
      · have c2 := hc j hlt
        rw [markI_at _ _ _ hlt] at c2
        have hne : ((k + (j : Int)) != (k + (j : Int))) = false := by simp
        clear hc
        go_wp2
        go_round
        case rel => exact ⟨j + 1, by omega, by go_num, by go_num⟩
        case measure => simp [intOf]; omega
      · have hjn : j = n := by omega
        subst hjn
        clear hc
        go_wp2
        go_ret
        exact ⟨ret_int rfl, rfl⟩

set_option maxHeartbeats 1000000 in
theorem eqInode_i (N : ByteArray) (Z : Int) (a b : Option Addr) (m ca cb : Nat) (es : List Int) (w : World) (ha : IRow .i64 w a m es) (hb : IRow .i64 w b m es) (hm : m ≤ 2097152) :
    Calls Tryd.prog 21 #[.agg #[.string N, .int .i64 Z, .slice a m ca], .agg #[.string N, .int .i64 Z, .slice b m cb]] w fun e w' => e = .returned (.bool true) ∧ Below w.heap.size w w' := by
  have h1 : (N.toList == N.toList) = true := by simp
  have h2 : (Z != Z) = false := by simp
  have HA : Hid (IRow .i64 w a m es) := ha
  have HB : Hid (IRow .i64 w b m es) := hb
  clear ha hb
  have hbb : ∀ o1 o2 : Obj, Below w.heap.size w ((w.alloc o1).alloc o2) := fun o1 o2 => ((Below.refl _ _).alloc (Nat.le_refl _) _).alloc (by simp) _
  go_enter Tryd.func21, Tryd.ntmps21
  go_wp2_with fail
  refine (eqInt64S_any _ _ _ _ _ _ es es _ (HA.out.below (hbb _ _)) (HB.out.below (hbb _ _)) hm hm).mono ?_
  rintro e w1 ⟨rfl, d, rfl⟩
  rw [show decide (es = es) = true from by simp]
  go_wp2
  go_ret
  exact ⟨rfl, below_drewN (hbb _ _) d⟩
set_option maxHeartbeats 1000000 in
theorem eqInodeResult_same (t : Bool) (N : ByteArray) (Z : Int) (a b : Option Addr) (m ca cb : Nat) (es : List Int) (w : World) (ha : IRow .i64 w a m es) (hb : IRow .i64 w b m es) (hm : m ≤ 2097152) :
    Calls Tryd.prog 7 #[.agg #[.bool t, .string N, .int .i64 Z, .slice a m ca], .agg #[.bool t, .string N, .int .i64 Z, .slice b m cb]] w fun e w' => e = .returned (.bool true) ∧ Below w.heap.size w w' := by
  have h1 : (t != t) = false := by simp
  have HA : Hid (IRow .i64 w a m es) := ha
  have HB : Hid (IRow .i64 w b m es) := hb
  clear ha hb
  have hbb : ∀ o1 o2 : Obj, Below w.heap.size w ((w.alloc o1).alloc o2) := fun o1 o2 => ((Below.refl _ _).alloc (Nat.le_refl _) _).alloc (by simp) _
  go_enter Tryd.func7, Tryd.ntmps7
  go_wp2_with fail
  refine (eqInode_i _ _ _ _ _ _ _ es _ (HA.out.below (hbb _ _)) (HB.out.below (hbb _ _)) hm).mono ?_
  rintro e w1 ⟨rfl, hb⟩
  have hb1 : Below w.heap.size w w1 := (hbb _ _).trans (hb.mono (by simp; omega))
  clear hb hbb
  go_wp2
  go_ret
  exact ⟨rfl, hb1⟩
set_option maxHeartbeats 1000000 in
theorem markInode_i (N : ByteArray) (Z : Int) (a : Option Addr) (m ca : Nat) (k : Int) (G : Nat → Prop) (es : List Int) (w : World) (ha : Row .i64 G w a m es) (hn : m ≤ 2097152) (h0 : 0 ≤ k) (h1 : k ≤ 35184372088832) :
    Calls Tryd.prog 22 #[.agg #[.string N, .int .i64 Z, .slice a m ca], .int .i64 k] w fun e w' => e = .returned (.int .i64 (k + m)) ∧ Row .i64 G w' a m (markI k m) ∧ Kept G w w' := by
  have HA : Hid (Row .i64 G w a m es) := ha
  clear ha
  have hbb : ∀ o1 : Obj, Below w.heap.size w (w.alloc o1) := fun o1 => (Below.refl _ _).alloc (Nat.le_refl _) _
  go_enter Tryd.func22, Tryd.ntmps22
  go_wp2_with fail
  refine (markInt64S_any _ _ _ k G es _ (HA.out.below (hbb _)) hn h0 h1).mono ?_
  rintro e w1 ⟨rfl, q1, hk⟩
  have hk' : Kept G w w1 := (Kept.of_below (hbb _) G).trans hk
  clear hk hbb
  go_wp2
  go_ret
  exact ⟨rfl, q1, hk'⟩
set_option maxHeartbeats 1000000 in
theorem markInodeResult_any (t : Bool) (N : ByteArray) (Z : Int) (a : Option Addr) (m ca : Nat) (k : Int) (G : Nat → Prop) (es : List Int) (w : World) (ha : Row .i64 G w a m es) (hn : m ≤ 2097152) (h0 : 0 ≤ k) (h1 : k ≤ 35184372088832) :
    Calls Tryd.prog 10 #[.agg #[.bool t, .string N, .int .i64 Z, .slice a m ca], .int .i64 k] w fun e w' => e = .returned (.int .i64 (k + m)) ∧ Row .i64 G w' a m (markI k m) ∧ Kept G w w' := by
  have HA : Hid (Row .i64 G w a m es) := ha
  clear ha
  have hbb : ∀ o1 : Obj, Below w.heap.size w (w.alloc o1) := fun o1 => (Below.refl _ _).alloc (Nat.le_refl _) _
  go_enter Tryd.func10, Tryd.ntmps10
  go_wp2_with fail
  refine (markInode_i _ _ _ _ _ k G es _ (HA.out.below (hbb _)) hn h0 h1).mono ?_
  rintro e w1 ⟨rfl, q1, hk⟩
  have hk' : Kept G w w1 := (Kept.of_below (hbb _) G).trans hk
  clear hk hbb
  go_wp2
  go_ret
  exact ⟨rfl, q1, hk'⟩
set_option maxHeartbeats 1000000 in
theorem heldInode_i (N : ByteArray) (Z : Int) (a : Option Addr) (m ca : Nat) (k : Int) (w : World) (ha : IRow .i64 w a m (markI k m)) (hn : m ≤ 2097152) (h0 : 0 ≤ k) (h1 : k ≤ 35184372088832) :
    Calls Tryd.prog 23 #[.agg #[.string N, .int .i64 Z, .slice a m ca], .int .i64 k] w fun e w' => e = .returned (.int .i64 (k + m)) ∧ Below w.heap.size w w' := by
  have HA : Hid (IRow .i64 w a m (markI k m)) := ha
  clear ha
  have hbb : ∀ o1 : Obj, Below w.heap.size w (w.alloc o1) := fun o1 => (Below.refl _ _).alloc (Nat.le_refl _) _
  go_enter Tryd.func23, Tryd.ntmps23
  go_wp2_with fail
  refine (heldInt64S_i _ _ _ k _ (HA.out.below (hbb _)) hn h0 h1).mono ?_
  rintro e w1 ⟨rfl, hw⟩
  have hw' := hw.symm
  subst hw'
  have hlt : ¬ (k + (m : Int)) < 0 := by omega
  go_wp2
  go_ret
  exact ⟨rfl, hbb _⟩
set_option maxHeartbeats 1000000 in
theorem heldInodeResult_any (t : Bool) (N : ByteArray) (Z : Int) (a : Option Addr) (m ca : Nat) (k : Int) (w : World) (ha : IRow .i64 w a m (markI k m)) (hn : m ≤ 2097152) (h0 : 0 ≤ k) (h1 : k ≤ 35184372088832) :
    Calls Tryd.prog 11 #[.agg #[.bool t, .string N, .int .i64 Z, .slice a m ca], .int .i64 k] w fun e w' => e = .returned (.int .i64 (k + m)) ∧ Below w.heap.size w w' := by
  have HA : Hid (IRow .i64 w a m (markI k m)) := ha
  clear ha
  have hbb : ∀ o1 : Obj, Below w.heap.size w (w.alloc o1) := fun o1 => (Below.refl _ _).alloc (Nat.le_refl _) _
  go_enter Tryd.func11, Tryd.ntmps11
  go_wp2_with fail
  refine (heldInode_i _ _ _ _ _ k _ (HA.out.below (hbb _)) hn h0 h1).mono ?_
  rintro e w1 ⟨rfl, hb⟩
  have hb1 : Below w.heap.size w w1 := (hbb _).trans (hb.mono (by simp))
  have hlt : ¬ (k + (m : Int)) < 0 := by omega
  clear hb hbb
  go_wp2
  go_ret
  exact ⟨rfl, hb1⟩
end Go.Proofs.YtkkammbfomiofabDoor
