/-
  The walks over names: spec.ValidName and impl.ValidName answer the same.
-/
import Derived.Test.YtkkammbfomiofaaDoorProg
import Derived.WalkKit
import Derived.WalkSpells
import Derived.WalkLawsBesides
namespace Go.Proofs.YtkkammbfomiofaaDoor
open Go.RowKit

theorem ret_bool {a b : Bool} (h : a = b) : Ending.returned (.bool a) = .returned (.bool b) := by rw [h]

/-- A byte that a name may hold. -/
def nbB (c : Int) : Bool := (decide (97 ≤ c) && decide (c ≤ 122)) || (decide (48 ≤ c) && decide (c ≤ 57)) || decide (c = 46) || decide (c = 95) || decide (c = 45)

set_option maxHeartbeats 400000 in
theorem nameByte_impl (c : Int) (w : World) (h0 : 0 ≤ c) (h1 : c ≤ 255) :
    Calls Tryd.prog 51 #[.int .u8 c] w fun e w' => e = .returned (.bool (nbB c)) ∧ w' = w := by
  go_enter Tryd.func51, Tryd.ntmps51
  go_wp2
  all_goals (go_ret; exact ⟨ret_bool (by rw [Bool.eq_iff_iff]; simp [nbB]; try omega), rfl⟩)

set_option maxHeartbeats 400000 in
theorem nameByte_spec (c : Int) (w : World) (h0 : 0 ≤ c) (h1 : c ≤ 255) :
    Calls Tryd.prog 52 #[.int .u8 c] w fun e w' => e = .returned (.bool (nbB c)) ∧ w' = w := by
  go_enter Tryd.func52, Tryd.ntmps52
  go_wp2
  all_goals (go_ret; exact ⟨ret_bool (by rw [Bool.eq_iff_iff]; simp [nbB]; try omega), rfl⟩)

/-- All bytes may stand in a name. -/
def allB (l : List UInt8) : Bool := l.all fun c => nbB (c.toNat : Int)
/-- A valid name. -/
def nameB (s : ByteArray) : Bool := allB s.data.toList && (decide (1 ≤ s.size) && decide (s.size ≤ 16))

theorem take_snoc (s : ByteArray) (k : Nat) (h : k < s.size) : s.data.toList.take (k + 1) = s.data.toList.take k ++ [s[k]] := by
  rw [List.take_succ_eq_append_getElem (by simpa using h)]; rfl
theorem allB_snoc (s : ByteArray) (k : Nat) (h : k < s.size) : allB (s.data.toList.take (k + 1)) = (allB (s.data.toList.take k) && nbB ((s[k]).toNat : Int)) := by
  rw [take_snoc s k h]; simp [allB]
theorem allB_whole (s : ByteArray) (k : Nat) (h : ¬ k < s.size) : allB (s.data.toList.take k) = allB s.data.toList := by
  rw [List.take_of_length_le (by simp; omega)]
theorem allB_no (s : ByteArray) (k : Nat) (h : k < s.size) (hn : nbB ((s[k]).toNat : Int) = false) : allB s.data.toList = false := by
  have e := allB_snoc s k h
  rw [hn, Bool.and_false] at e
  have := List.take_append_drop (k + 1) s.data.toList
  rw [← this]
  simp only [allB, List.all_append, Bool.and_eq_false_iff] at e ⊢
  exact .inl e

set_option maxHeartbeats 1000000 in
theorem validName_spec (s : ByteArray) (w : World) (hs : s.size ≤ 1048576) :
    Calls Tryd.prog 45 #[.string s] w fun e w' => e = .returned (.bool (nameB s)) ∧ w' = w := by
  go_enter Tryd.func45, Tryd.ntmps45
  go_wp2
  go_loop [3] (fun i => ∃ k : Nat, k ≤ s.size ∧ i = .int .i64 k ∧ allB (s.data.toList.take k) = true) (fun i => s.size - (intOf i).toNat)
  case atStart => exact ⟨0, Nat.zero_le _, rfl, rfl⟩
  case round =>
    obtain ⟨k, hk, rfl, hall⟩ := hrel
    have HA : Hid (allB (s.data.toList.take k) = true) := hall
    clear hall
    by_cases hlt : k < s.size
    · have b1 : (0 : Int) ≤ ((s[k]).toNat : Int) := by omega
      have b2 : ((s[k]).toNat : Int) ≤ 255 := by have := (s[k]).toNat_lt; omega
      cases hb : nbB ((s[k]).toNat : Int)
      · have HN := allB_no s k hlt hb
        have HF : Hid (nameB s = false) := by show nameB s = false; simp [nameB, HN]
        clear HN
        go_wp2_with (go_at_call 52; refine (nameByte_spec _ _ b1 b2).mono ?_; rintro e w' ⟨rfl, rfl⟩; rw [hb])
        go_ret
        exact ⟨ret_bool HF.out.symm, rfl⟩
      · have HS : Hid (allB (s.data.toList.take (k + 1)) = true) := by show _ = true; rw [allB_snoc s k hlt, HA.out, hb]; rfl
        go_wp2_with (go_at_call 52; refine (nameByte_spec _ _ b1 b2).mono ?_; rintro e w' ⟨rfl, rfl⟩; rw [hb])
        go_round
        case rel => exact ⟨k + 1, by omega, by go_num, HS.out⟩
        case measure => simp [intOf]; omega
    · have HW : Hid (nameB s = (decide (1 ≤ s.size) && decide (s.size ≤ 16))) := by show _ = _; rw [nameB, ← allB_whole s k hlt, HA.out]; rfl
      go_wp2
      all_goals (go_ret; exact ⟨ret_bool (by rw [HW.out, Bool.eq_iff_iff]; simp; try omega), rfl⟩)
end Go.Proofs.YtkkammbfomiofaaDoor
