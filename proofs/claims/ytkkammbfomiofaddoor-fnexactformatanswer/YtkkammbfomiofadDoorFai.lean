/-
  strconv.AppendInt at base 10 onto a row that came out of a string, whole; 'told'.
-/
import Derived.Test.YtkkammbfomiofadDoorFau
import Derived.Test.YtkkammbfomiofadDoorBytes
namespace Go.Proofs.YtkkammbfomiofadDoor
open Go.RowKit
set_option linter.unusedSimpArgs false
set_option linter.unusedVariables false

def Tab (w : World) : Prop := Lib.TabIs Tryd.prog w "internal/strconv.uint64pow10" .u64 Lib.pow10Tab
theorem Tab.below {w w' : World} (h : Tab w) (hb : Below w.heap.size w w') : Tab w' := Lib.tabBelow_of_tabIs h w' hb

theorem one_byte {w : World} {b : UInt8} {x : Int} {t : TypeId} (hx : x = (b.toNat : Int)) : ∀ j u', (Lib.byteCells [b])[j]? = some u' → (w.alloc (.cells #[.int .u8 x] t)).cell? ((⟨w.heap.size, 0, none⟩ : Addr).add j) = some u' := by
  subst hx
  intro j u' hj
  match j, hj with
  | 0, hj => simp [Lib.byteCells] at hj; subst hj; simp [Addr.add]

set_option maxHeartbeats 6400000 in
set_option maxRecDepth 100000 in
theorem appendInt_inner (B : Nat) (i : Int) (h0 : -9223372036854775808 ≤ i) (h1 : i ≤ 9223372036854775807) (sv : Value) (l : List UInt8) (w : World) (hown : OwnM w B 5 sv l) (hBw : B ≤ w.heap.size) (hlim : l.length + 21 ≤ 140737488355328)
    (htab : Lib.TabBelow Tryd.prog B w "internal/strconv.uint64pow10" .u64 Lib.pow10Tab) :
    Calls Tryd.prog 26 #[sv, .int .i64 i, .int .i64 10] w fun e w' => ∃ v', e = .returned v' ∧ OwnM w' B 5 v' (l ++ Lib.itoa i) ∧ Below B w w' := by
  obtain ⟨i0, hi, hz0, hz1, hz2⟩ := info_parts infoB
  by_cases hneg : i < 0
  · obtain ⟨u, rfl⟩ : ∃ u : Nat, i = -(u : Int) := ⟨i.natAbs, by omega⟩
    have hu1 : 1 ≤ u := by omega
    have hu64 : u < 18446744073709551616 := by omega
    have hwr : IntKind.u64.wrap (-IntKind.u64.wrap (-(u : Int))) = (u : Int) := by rw [IntKind.wrap_u64, IntKind.wrap_u64]; omega
    have HI := Lib.hid (Lib.itoa_neg u hu1)
    go_enter Tryd.func26, Tryd.ntmps26
    go_wp2_with (at_builtin; refine wpList_M _ rfl _ _ 44 rfl B 5 i0 Tryd.underlying44 hi hz0 hz1 hz2 _ _ rfl (hown.alloc _) ⟨w.heap.size, 0, none⟩ 1 1 [45] rfl rfl (one_byte rfl) (by simp; omega) (by simp; omega) ?_)
    intro v1 w1 hown1 hgrow
    have hnx1 : Below B w w1 := Below.grownM ((Below.refl B w).alloc hBw _) (by simp; omega) hgrow (hown.alloc _)
    have htab1 := htab w1 hnx1
    have hs1 := hnx1.size
    have HC := Lib.hid (appendUint_any B u hu64 v1 _ w1 hown1 (by omega) (by simp; omega) htab1)
    have HNX : Hid (Below B w w1) := hnx1
    clear hown1 hgrow hnx1 htab1 hown
    go_wp2_with fail
    refine HC.out.mono ?_
    rintro e w2 ⟨v2, rfl, hown2, hnx2⟩
    have HO : Hid (OwnM w2 B 5 v2 (l ++ Lib.itoa (-(u : Int)))) := by show OwnM _ _ _ _ _; rw [HI.out]; simpa using hown2
    have HN2 : Hid (Below B w w2) := HNX.out.trans hnx2
    clear hown2 hnx2 HC
    go_wp2
    go_ret
    exact ⟨v2, rfl, HO.out, HN2.out⟩
  · obtain ⟨u, rfl⟩ : ∃ u : Nat, i = u := ⟨i.toNat, by omega⟩
    have hu64 : u < 18446744073709551616 := by omega
    have HI := Lib.hid (Lib.itoa_nonneg u)
    have HC := Lib.hid (appendUint_any B u hu64 sv l w hown hBw (by omega) htab.here)
    go_enter Tryd.func26, Tryd.ntmps26
    go_wp2_with fail
    refine HC.out.mono ?_
    rintro e w2 ⟨v2, rfl, hown2, hnx2⟩
    have HO : Hid (OwnM w2 B 5 v2 (l ++ Lib.itoa (u : Int))) := by show OwnM _ _ _ _ _; rw [HI.out]; exact hown2
    have HN2 : Hid (Below B w w2) := hnx2
    clear hown2 hnx2 HC hown htab
    go_wp2
    go_ret
    exact ⟨v2, rfl, HO.out, HN2.out⟩
theorem appendInt_any (B : Nat) (i : Int) (h0 : -9223372036854775808 ≤ i) (h1 : i ≤ 9223372036854775807) (sv : Value) (l : List UInt8) (w : World) (hown : OwnM w B 5 sv l) (hBw : B ≤ w.heap.size) (hlim : l.length + 21 ≤ 140737488355328)
    (htab : Lib.TabBelow Tryd.prog B w "internal/strconv.uint64pow10" .u64 Lib.pow10Tab) :
    Calls Tryd.prog 23 #[sv, .int .i64 i, .int .i64 10] w fun e w' => ∃ v', e = .returned v' ∧ OwnM w' B 5 v' (l ++ Lib.itoa i) ∧ Below B w w' := by
  have HC := Lib.hid (appendInt_inner B i h0 h1 sv l w hown hBw hlim htab)
  clear hown htab
  go_enter Tryd.func23, Tryd.ntmps23
  go_wp2_with fail
  refine HC.out.mono ?_
  rintro e w2 ⟨v2, rfl, hown2, hnx2⟩
  have HO : Hid (OwnM w2 B 5 v2 (l ++ Lib.itoa i)) := hown2
  have HN2 : Hid (Below B w w2) := hnx2
  clear hown2 hnx2 HC
  go_wp2
  go_ret
  exact ⟨v2, rfl, HO.out, HN2.out⟩

/-- The numbers, each behind a blank. -/
def sayL (xs : List Int) : List UInt8 := xs.flatMap fun v => 32 :: Lib.itoa v
theorem sayL_succ (xs : List Int) (k : Nat) (h : k < xs.length) : sayL (xs.take (k + 1)) = sayL (xs.take k) ++ (32 :: Lib.itoa (xs[k]?.getD 0)) := by
  rw [List.take_succ_eq_append_getElem h, List.getElem?_eq_getElem h]
  unfold sayL
  rw [List.flatMap_append]
  simp only [List.flatMap_cons, List.flatMap_nil, List.append_nil, Option.getD_some]
theorem sayL_len (xs : List Int) (k : Nat) (hk : k ≤ xs.length) (hx : ∀ i, i < xs.length → -9223372036854775808 ≤ xs[i]?.getD 0 ∧ xs[i]?.getD 0 ≤ 9223372036854775807) : (sayL (xs.take k)).length ≤ 22 * k := by
  induction k with
  | zero => simp [sayL]
  | succ k ih =>
    have h := hx k (by omega)
    have := Lib.itoa_length_le (xs[k]?.getD 0) h.1 h.2
    have := ih (by omega)
    rw [sayL_succ xs k (by omega), List.length_append, List.length_cons]
    omega

set_option maxHeartbeats 6400000 in
set_option maxRecDepth 100000 in
theorem told_any (word : ByteArray) (hw : word.size ≤ 1048576) (a : Option Addr) (n ca : Nat) (xs : List Int) (w : World) (ha : IRow .i64 w a n xs) (hn : n ≤ 1048576) (hx : ∀ i, i < n → -9223372036854775808 ≤ xs[i]?.getD 0 ∧ xs[i]?.getD 0 ≤ 9223372036854775807) (htab : Tab w) :
    Calls Tryd.prog 16 #[.string word, .slice a n ca] w fun e w' => e = .returned (.string ⟨(word.data.toList ++ sayL xs).toArray⟩) ∧ Below w.heap.size w w' := by
  obtain ⟨i0, hi, hz0, hz1, hz2⟩ := info_parts infoB
  obtain ⟨v1, w1, hcv, own1, hb1⟩ := conv_M (P := Tryd.prog) w 9 44 5 word (by unfold maxLen; omega) Tryd.underlying9 Tryd.underlying44 Tryd.underlying5
  have hT := Lib.tabBelow_of_tabIs htab
  have HA := Lib.hid ha
  have HX := Lib.hid hx
  have HT := Lib.hid hT
  have HB1 : Hid (Below w.heap.size w w1) := hb1
  have HO1 : Hid (OwnM w1 w.heap.size 5 v1 word.data.toList) := own1
  clear ha hx hT htab hb1 own1
  go_enter Tryd.func16, Tryd.ntmps16
  go_wp2_with fail
  go_loopw [5, 12] (fun t i wr => ∃ k : Nat, k ≤ n ∧ i = .int .i64 k ∧ Hid (OwnM wr w.heap.size 5 t (word.data.toList ++ sayL (xs.take k)) ∧ Below w.heap.size w wr)) (fun _ i _ => n - (intOf i).toNat)
  case atStart => exact ⟨0, Nat.zero_le _, rfl, by simpa [sayL] using HO1.out, HB1.out⟩
  case round =>
    obtain ⟨k, hk, rfl, HR⟩ := hrel
    by_cases hlt : k < n
    · obtain ⟨g, off, rfl, hc⟩ := (HA.out.below HR.out.2).2.resolve_left (by omega)
      have hwz := HR.out.2.size
      have c1 := hc k hlt
      have hlt' : (k : Int) < (n : Int) := by omega
      have h0' : (0 : Int) ≤ (k : Int) := by omega
      obtain ⟨x0, x1⟩ := HX.out k hlt
      have HL := Lib.hid (sayL_len xs k (by rw [HA.out.1]; omega) (fun i hi => HX.out i (by rw [← HA.out.1]; exact hi)))
      have HS := Lib.hid (sayL_succ xs k (by rw [HA.out.1]; omega))
      have hsl : word.data.toList.length = word.size := by rw [Array.length_toList]; rfl
      have HSL := Lib.hid hsl
      have own := HR.out.1
      have hbr := HR.out.2
      clear hc hsl
      go_wp2_with (at_builtin; refine wpList_M _ rfl _ _ 44 rfl w.heap.size 5 i0 Tryd.underlying44 hi hz0 hz1 hz2 _ _ rfl (own.alloc _) ⟨wr.heap.size, 0, none⟩ 1 1 [32] rfl rfl (one_byte rfl) (by have := HL.out; have := HSL.out; simp only [List.length_append, List.length_cons, List.length_nil]; omega) (by simp; omega) ?_)
      intro v2 w2 own2 hgrow
      have hb2 : Below w.heap.size w w2 := Below.grownM (hbr.alloc hwz _) (by simp; omega) hgrow (own.alloc _)
      have hw2 := hb2.size
      have HC := Lib.hid (appendInt_any w.heap.size (xs[k]?.getD 0) x0 x1 v2 _ w2 own2 hw2 (by have := HL.out; have := HSL.out; simp only [List.length_append, List.length_cons, List.length_nil]; omega) (HT.out.on hb2))
      have HB2 := Lib.hid hb2
      clear own own2 hgrow hb2 hbr c1 HR
      go_wp2_with fail
      refine HC.out.mono ?_
      rintro e w3 ⟨v3, rfl, own3, hb3⟩
      have HR3 : Hid (OwnM w3 w.heap.size 5 v3 (word.data.toList ++ sayL (xs.take (k + 1))) ∧ Below w.heap.size w w3) := by
        refine ⟨?_, HB2.out.trans hb3⟩
        rw [HS.out]
        simpa using own3
      clear own3 hb3 HC HB2 HL HS
      go_wp2
      go_roundw
      case rel => exact ⟨k + 1, by omega, by go_num, HR3⟩
      case measure => simp [intOf]; omega
    · obtain rfl : k = n := by omega
      have own := HR.out.1
      rw [List.take_of_length_le (by rw [HA.out.1]; omega)] at own
      have hcb := conv_back_M (P := Tryd.prog) wr own 44 9 Tryd.underlying44 Tryd.underlying5 Tryd.underlying9
      have HB := Lib.hid HR.out.2
      clear own HR
      go_wp2
      go_ret
      exact ⟨rfl, HB.out⟩
end Go.Proofs.YtkkammbfomiofadDoor
