/-
  The specification's l6Say.
-/
import Derived.Test.YtkkammbfomiofadDoorFdc
namespace Go.Proofs.YtkkammbfomiofadDoor
open Go.RowKit
set_option linter.unusedSimpArgs false
set_option linter.unusedVariables false

theorem dec_call (v : Int) (h0 : -9223372036854775808 ≤ v) (h1 : v ≤ 9223372036854775807) (w : World) :
    Calls Tryd.prog 21 #[.int .i64 v] w fun e w' => e = .returned (.string ⟨(Lib.itoa v).toArray⟩) ∧ Below w.heap.size w w' :=
  dec_any _ v (Nat.lt_succ_self _) h0 h1 w

set_option maxHeartbeats 6400000 in
set_option maxRecDepth 100000 in
theorem say_any (word : ByteArray) (hw : word.size ≤ 1048576) (a : Option Addr) (n ca : Nat) (xs : List Int) (w : World) (ha : IRow .i64 w a n xs) (hn : n ≤ 1048576) (hx : ∀ i, i < n → -9223372036854775808 ≤ xs[i]?.getD 0 ∧ xs[i]?.getD 0 ≤ 9223372036854775807) :
    Calls Tryd.prog 12 #[.string word, .slice a n ca] w fun e w' => e = .returned (.string ⟨(word.data.toList ++ sayL xs).toArray⟩) ∧ Below w.heap.size w w' := by
  have HA := Lib.hid ha
  have HX := Lib.hid hx
  clear ha hx
  have HWL : Hid (word.data.toList.length = word.size) := by show _ = _; rw [Array.length_toList]; rfl
  go_enter Tryd.func12, Tryd.ntmps12
  go_wp2_with fail
  go_loopw [0, 5] (fun wd i wr => ∃ k : Nat, k ≤ n ∧ i = .int .i64 k ∧ ∃ S : ByteArray, wd = .string S ∧ Hid (S = ⟨(word.data.toList ++ sayL (xs.take k)).toArray⟩ ∧ Below w.heap.size w wr)) (fun _ i _ => n - (intOf i).toNat)
  case atStart => exact ⟨0, Nat.zero_le _, rfl, word, rfl, by simp [sayL], Below.refl _ _⟩
  case round =>
    obtain ⟨k, hk, rfl, S, rfl, HR⟩ := hrel
    by_cases hlt : k < n
    · obtain ⟨g, off, rfl, hc⟩ := (HA.out.below HR.out.2).2.resolve_left (by omega)
      have c1 := hc k hlt
      have hlt' : (k : Int) < (n : Int) := by omega
      have h0' : (0 : Int) ≤ (k : Int) := by omega
      obtain ⟨x0, x1⟩ := HX.out k hlt
      have hS : S.size ≤ 1048576 + 22 * k := by
        have h1 := sayL_len xs k (by rw [HA.out.1]; omega) (fun i hi => HX.out i (by rw [← HA.out.1]; exact hi))
        have h2 := HWL.out
        rw [HR.out.1, size_list, List.length_append]
        omega
      have hD : (⟨(Lib.itoa (xs[k]?.getD 0)).toArray⟩ : ByteArray).size ≤ 21 := by rw [size_list]; exact Lib.itoa_length_le _ x0 x1
      have HE : Hid (S ++ (⟨#[32]⟩ ++ ⟨(Lib.itoa (xs[k]?.getD 0)).toArray⟩) = ⟨(word.data.toList ++ sayL (xs.take (k + 1))).toArray⟩) := by
        show _ = _
        rw [HR.out.1, sayL_succ xs k (by rw [HA.out.1]; omega), ByteArray.mk_append_mk, ByteArray.mk_append_mk]
        simp
      have HC := Lib.hid (fun w => dec_call (xs[k]?.getD 0) x0 x1 w)
      have HBR := Lib.hid HR.out.2
      generalize (⟨(Lib.itoa (xs[k]?.getD 0)).toArray⟩ : ByteArray) = D at *
      have h32 : (⟨#[32]⟩ : ByteArray).size = 1 := rfl
      have hs1 : ¬ 9223372036854775807 < 1 + D.size := by omega
      have hs2 : ¬ 9223372036854775807 < S.size + (1 + D.size) := by omega
      clear hc HR
      go_wp2_with fail
      refine (HC.out _).mono ?_
      rintro e w1 ⟨rfl, hb1⟩
      have HR1 : Hid (S ++ (⟨#[32]⟩ ++ D) = ⟨(word.data.toList ++ sayL (xs.take (k + 1))).toArray⟩ ∧ Below w.heap.size w w1) := ⟨HE.out, HBR.out.trans (hb1.mono HBR.out.size)⟩
      clear hb1 HC HBR c1 HE
      go_wp2
      go_roundw
      case rel => exact ⟨k + 1, by omega, by go_num, _, rfl, HR1⟩
      case measure => simp [intOf]; omega
    · obtain rfl : k = n := by omega
      have hS := HR.out.1
      rw [List.take_of_length_le (by rw [HA.out.1]; omega)] at hS
      have HS := Lib.hid hS
      have HB := Lib.hid HR.out.2
      clear hS HR
      go_wp2
      go_ret
      exact ⟨by rw [← HS.out]; rfl, HB.out⟩
end Go.Proofs.YtkkammbfomiofadDoor
