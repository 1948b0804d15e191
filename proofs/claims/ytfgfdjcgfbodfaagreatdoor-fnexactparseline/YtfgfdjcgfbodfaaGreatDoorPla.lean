/-
  FnExactParseLine: the law's helpers over a line: compare, mark, hold.
-/
import Derived.Test.YtfgfdjcgfbodfaaGreatDoorPms
import Derived.Test.YtfgfdjcgfbodfaaGreatDoorDce
namespace Go.Proofs.YtfgfdjcgfbodfaaGreatDoor
open Go.RowKit
set_option linter.unusedSimpArgs false
set_option linter.unusedVariables false

set_option maxHeartbeats 1000000 in
theorem eqCall_same (C : Int) (N D : ByteArray) (Z : Int) (w : World) :
    Calls Tryz.prog 18 #[.agg #[.int .i64 C, .string N, .string D, .int .i64 Z], .agg #[.int .i64 C, .string N, .string D, .int .i64 Z]] w fun e w' => e = .returned (.bool true) ∧ Below w.heap.size w w' := by
  have h1 : (N.toList == N.toList) = true := by simp
  have h2 : (Z != Z) = false := by simp
  have h3 : (C != C) = false := by simp
  have h4 : (D.toList == D.toList) = true := by simp
  have hbb : ∀ o1 o2 : Obj, Below w.heap.size w ((w.alloc o1).alloc o2) := fun o1 o2 => ((Below.refl _ _).alloc (Nat.le_refl _) _).alloc (by simp) _
  go_enter Tryz.func18, Tryz.ntmps18
  go_wp2
  go_ret
  exact ⟨rfl, hbb _ _⟩
set_option maxHeartbeats 1000000 in
theorem eqLine_same (K C : Int) (N D : ByteArray) (Z : Int) (a b : Option Addr) (m ca cb : Nat) (es : List Int) (w : World) (ha : IRow .i64 w a m es) (hb : IRow .i64 w b m es) (hm : m ≤ 2097152) :
    Calls Tryz.prog 7 #[.agg #[.int .i64 K, .int .i64 C, .string N, .string D, .int .i64 Z, .slice a m ca], .agg #[.int .i64 K, .int .i64 C, .string N, .string D, .int .i64 Z, .slice b m cb]] w fun e w' => e = .returned (.bool true) ∧ Below w.heap.size w w' := by
  have h1 : (K != K) = false := by simp
  have HA : Hid (IRow .i64 w a m es) := ha
  have HB : Hid (IRow .i64 w b m es) := hb
  clear ha hb
  obtain ⟨W2, hW2⟩ : ∃ W2, (w.alloc (.cells #[.int .i64 K, .int .i64 C, .string N, .string D, .int .i64 Z, .slice a m ca] 27)).alloc (.cells #[.int .i64 K, .int .i64 C, .string N, .string D, .int .i64 Z, .slice b m cb] 27) = W2 := ⟨_, rfl⟩
  have hbb : Below w.heap.size w W2 := by rw [← hW2]; exact ((Below.refl _ _).alloc (Nat.le_refl _) _).alloc (by simp) _
  have k1 : W2.heap[w.heap.size]? = some (.cells #[.int .i64 K, .int .i64 C, .string N, .string D, .int .i64 Z, .slice a m ca] 27 (0, 0)) := by rw [← hW2]; exact (heap_alloc_old _ _ (by simp)).trans (heap_alloc_new w _)
  have k2 : W2.heap[w.heap.size + 1]? = some (.cells #[.int .i64 K, .int .i64 C, .string N, .string D, .int .i64 Z, .slice b m cb] 27 (0, 0)) := by
    have hs : (w.alloc (.cells #[.int .i64 K, .int .i64 C, .string N, .string D, .int .i64 Z, .slice a m ca] 27)).heap.size = w.heap.size + 1 := by simp
    rw [← hW2, ← hs]
    exact heap_alloc_new _ _
  have hz2 : w.heap.size + 2 ≤ W2.heap.size := by rw [← hW2]; simp
  obtain ⟨⟨x0, x1, x2, x3, x4, x5⟩, _, _, _, _, _, _⟩ := six_of k1
  obtain ⟨⟨y0, y1, y2, y3, y4, y5⟩, _, _, _, _, _, _⟩ := six_of k2
  go_enter Tryz.func7, Tryz.ntmps7
  go_wp2_with fail
  refine (eqCall_same _ _ _ _ _).mono ?_
  rintro e w1 ⟨rfl, hb1⟩
  have hbw : Below w.heap.size w w1 := hbb.trans (hb1.mono (by omega))
  have k1' := (hb1.block w.heap.size (by omega)).trans k1
  have k2' := (hb1.block (w.heap.size + 1) (by omega)).trans k2
  clear x0 x1 x2 x3 x4 x5 y0 y1 y2 y3 y4 y5 hb1 k1 k2 hW2
  obtain ⟨⟨x0, x1, x2, x3, x4, x5⟩, _, _, _, _, _, _⟩ := six_of k1'
  obtain ⟨⟨y0, y1, y2, y3, y4, y5⟩, _, _, _, _, _, _⟩ := six_of k2'
  go_wp2_with fail
  refine (eqInt64S_any _ _ _ _ _ _ es es _ (HA.out.below hbw) (HB.out.below hbw) hm hm).mono ?_
  rintro e w2 ⟨rfl, d, rfl⟩
  rw [show decide (es = es) = true from by simp]
  go_wp2
  go_ret
  exact ⟨rfl, below_drewN hbw d⟩
set_option maxHeartbeats 1000000 in
theorem markLine_any (K C : Int) (N D : ByteArray) (Z : Int) (a : Option Addr) (m ca : Nat) (k : Int) (G : Nat → Prop) (es : List Int) (w : World) (ha : Row .i64 G w a m es) (hn : m ≤ 2097152) (h0 : 0 ≤ k) (h1 : k ≤ 35184372088832) :
    Calls Tryz.prog 10 #[.agg #[.int .i64 K, .int .i64 C, .string N, .string D, .int .i64 Z, .slice a m ca], .int .i64 k] w fun e w' => e = .returned (.int .i64 (k + m)) ∧ Row .i64 G w' a m (markI k m) ∧ Kept G w w' := by
  have HA : Hid (Row .i64 G w a m es) := ha
  clear ha
  have hbb : ∀ o1 : Obj, Below w.heap.size w (w.alloc o1) := fun o1 => (Below.refl _ _).alloc (Nat.le_refl _) _
  go_enter Tryz.func10, Tryz.ntmps10
  go_wp2_with fail
  refine (markInt64S_any _ _ _ k G es _ (HA.out.below (hbb _)) hn h0 h1).mono ?_
  rintro e w1 ⟨rfl, q1, hk⟩
  have hk' : Kept G w w1 := (Kept.of_below (hbb _) G).trans hk
  clear hk hbb
  go_wp2
  go_ret
  exact ⟨rfl, q1, hk'⟩
set_option maxHeartbeats 1000000 in
theorem heldLine_any (K C : Int) (N D : ByteArray) (Z : Int) (a : Option Addr) (m ca : Nat) (k : Int) (w : World) (ha : IRow .i64 w a m (markI k m)) (hn : m ≤ 2097152) (h0 : 0 ≤ k) (h1 : k ≤ 35184372088832) :
    Calls Tryz.prog 11 #[.agg #[.int .i64 K, .int .i64 C, .string N, .string D, .int .i64 Z, .slice a m ca], .int .i64 k] w fun e w' => e = .returned (.int .i64 (k + m)) ∧ Below w.heap.size w w' := by
  have HA : Hid (IRow .i64 w a m (markI k m)) := ha
  clear ha
  have hbb : ∀ o1 : Obj, Below w.heap.size w (w.alloc o1) := fun o1 => (Below.refl _ _).alloc (Nat.le_refl _) _
  go_enter Tryz.func11, Tryz.ntmps11
  go_wp2_with fail
  refine (heldInt64S_i _ _ _ k _ (HA.out.below (hbb _)) hn h0 h1).mono ?_
  rintro e w1 ⟨rfl, hw⟩
  have hw' := hw.symm
  subst hw'
  have hlt : ¬ (k + (m : Int)) < 0 := by omega
  go_wp2
  go_ret
  exact ⟨rfl, hbb _⟩
theorem call_ns (ss : List ByteArray) : (callOf ss).ns = [] := by
  match ss with
  | [] => rfl
  | [s] => show (call1 s).ns = []; unfold call1; (repeat' split) <;> rfl
  | [s, a] => show (call2 s a).ns = []; unfold call2; (repeat' split) <;> rfl
  | [s, a, b] => show (call3 s a b).ns = []; unfold call3; (repeat' split) <;> rfl
  | [s, a, b, c] => show (call4 s a b c).ns = []; unfold call4; (repeat' split) <;> rfl
  | _ :: _ :: _ :: _ :: _ :: _ => rfl
theorem nums_len {ss : List ByteArray} (h : numsFlag ss = true) : (numsOf ss).length ≤ 400 := by
  unfold numsFlag at h
  rw [Bool.and_eq_true, decide_eq_true_iff] at h
  rw [numsOf, List.length_map]
  exact h.2
theorem ln_len (ss : List ByteArray) (h : numsFlag (ss.drop 1) = true) : (numsLn ss).ns.length ≤ 400 := by
  have hl := nums_len h
  unfold numsLn
  split
  · exact hl
  · split
    · exact hl
    · split
      · exact hl
      · exact Nat.zero_le _
theorem line_len (l : List UInt8) : (lineOf l).ns.length ≤ 400 := by
  unfold lineOf
  split
  · exact Nat.zero_le _
  · split
    · exact Nat.zero_le _
    · unfold parseOf
      split
      · rw [call_ns]; exact Nat.zero_le _
      · split
        · exact Nat.zero_le _
        · split
          · next h => exact ln_len _ h
          · exact Nat.zero_le _
def u8L (xs : List Int) : List UInt8 := xs.map fun x => UInt8.ofNat x.toNat
theorem uhead_of {w : World} {g n : Nat} {xs : List Int} (h : IRow .u8 w (some ⟨g, 0, none⟩) n xs) (hx : ∀ x ∈ xs, 0 ≤ x ∧ x ≤ 255) : UHead w g n (u8L xs) := by
  obtain ⟨hl, hc⟩ := h
  refine ⟨by rw [u8L, List.length_map, hl], fun i hi => ?_⟩
  rcases hc with h0 | ⟨g', off, e, hc⟩
  · omega
  · injection e with e
    injection e with e1 e2
    subst e1
    subst e2
    have hc' := hc i hi
    rw [Nat.zero_add] at hc'
    rw [hc']
    have hlt : i < xs.length := by omega
    have hm := hx xs[i] (List.getElem_mem hlt)
    unfold uAt u8L
    rw [List.getElem?_map, List.getElem?_eq_getElem hlt]
    simp only [Option.getD_some, Option.map_some, UInt8.toNat_ofNat']
    congr 2
    omega
theorem lans_row {w w' : World} {e : Ending} {ln : LN} (h : LAns w w' e ln) : ∃ a' c', e = .returned (.agg #[.int .i64 ln.k, .int .i64 ln.ck, .string ln.nm, .string ln.dt, .int .i64 ln.sz, .slice a' ln.ns.length c']) ∧ Row .i64 (fun g => w.heap.size ≤ g ∧ g < w'.heap.size) w' a' ln.ns.length ln.ns ∧ Below w.heap.size w w' := by
  obtain ⟨v, rfl, own, hb⟩ := h
  obtain ⟨a, c, rfl, hr⟩ := gn_row own
  exact ⟨a, c, rfl, hr, hb⟩
end Go.Proofs.YtfgfdjcgfbodfaaGreatDoor
