/-
  l1Copy, l2Pad.
-/
import Derived.Test.YtkkammbfomiofabDoorPut
namespace Go.Proofs.YtkkammbfomiofabDoor
open Go.RowKit
set_option linter.unusedSimpArgs false
set_option linter.unusedVariables false

theorem u8s_take_succ (xs : List Int) (k : Nat) (h : k < xs.length) : u8s (xs.take (k + 1)) = u8s (xs.take k) ++ [.int .u8 (xs[k]?.getD 0)] := by
  rw [List.take_succ_eq_append_getElem h, u8s_append]; simp [u8s, List.getElem?_eq_getElem h]

set_option maxHeartbeats 1000000 in
theorem l1Copy_any (a : Option Addr) (n ca : Nat) (xs : List Int) (w : World) (ha : IRow .u8 w a n xs) (hn : n ≤ 2097152) :
    Calls Tryd.prog 37 #[.slice a n ca] w fun e w' => ∃ s, e = .returned s ∧ w'.ownsRow w.heap.size 5 1 s n (u8s xs) ∧ Below w.heap.size w w' := by
  obtain ⟨i0, hi, hz0, hz1, hz2⟩ := info_parts info5
  obtain ⟨hx, ha⟩ := ha
  rcases ha with h0 | ⟨g, off, rfl, hc⟩
  · subst h0
    have he : xs = [] := List.length_eq_zero_iff.1 hx
    subst he
    go_enter Tryd.func37, Tryd.ntmps37
    go_wp2
    refine wp_loop_rounds 1 ?_
    rw [rounds_succ]
    go_wp2
    go_ret
    exact ⟨_, rfl, empty_owned w, (Below.refl _ _).alloc (Nat.le_refl _) _⟩
  · have HX : Hid (xs.length = n) := hx
    clear hx
    go_enter Tryd.func37, Tryd.ntmps37
    go_wp2
    go_loopw [3, 4] (fun s i wr => ∃ k : Nat, k ≤ n ∧ i = .int .i64 k ∧ wr.ownsRow w.heap.size 5 1 s k (u8s (xs.take k)) ∧ Below w.heap.size w wr) (fun _ i _ => n - (intOf i).toNat)
    case atStart => exact ⟨0, Nat.zero_le _, rfl, empty_owned w, (Below.refl _ _).alloc (Nat.le_refl _) _⟩
    case round =>
      obtain ⟨k, hk, rfl, hown, hbel⟩ := hrel
      by_cases hlt : k < n
      · have c1 := hc k hlt
        rw [← hbel.cell (World.block_lt_of_cell? w _ c1)] at c1
        have HS : Hid (u8s (xs.take (k + 1)) = u8s (xs.take k) ++ [.int .u8 (xs[k]?.getD 0)]) := u8s_take_succ xs k (by rw [HX.out]; exact hlt)
        have hsz := hbel.size
        generalize xs[k]?.getD 0 = x at *
        clear hc
        go_wp2_with (at_builtin; refine wpList_append_own _ rfl _ _ 22 rfl w.heap.size 5 i0 (.int .u8 0) 1 1 Tryd.underlying22 hi hz0 hz1 hz2 rfl (by decide) _ _ _ rfl (hown.alloc _) ⟨wr.heap.size, 0, none⟩ 1 1 [.int .u8 x] rfl rfl one_cell (one_u8 _) (by unfold maxLen; omega) (by omega) (by simp; omega) ?_)
        intro s' w3 hown3 hgrow _
        have hb3 : Below w.heap.size w w3 := (hbel.alloc hsz _).grown hgrow (by simp; omega) (fun k hk => (hown.lt k hk).1)
        have hown4 : w3.ownsRow w.heap.size 5 1 s' (k + 1) (u8s (xs.take (k + 1))) := by rw [HS.out]; exact hown3
        clear hown3 hown hgrow HS c1
        go_wp2
        go_roundw
        case rel => exact ⟨k + 1, by omega, by go_num, hown4, hb3⟩
        case measure => simp [intOf]; omega
      · have hkn : k = n := by omega
        subst hkn
        rw [List.take_of_length_le (by rw [HX.out]; exact Nat.le_refl _)] at hown
        clear hc
        go_wp2
        go_ret
        exact ⟨_, rfl, hown, hbel⟩

/-- Zeros behind, up to m. -/
def padL (xs : List Int) (m : Nat) : List Int := xs ++ List.replicate (m - xs.length) 0
theorem padL_len (xs : List Int) (m : Nat) (h : xs.length ≤ m) : (padL xs m).length = m := by simp [padL]; omega

/-- The length in a slot. -/
def lenOf : Value → Nat
  | .slice _ l _ => l
  | _ => 0
theorem owns_shape {w : World} {B e sz n : Nat} {v : Value} {xs : List Value} (h : w.ownsRow B e sz v n xs) : ∃ a c, v = .slice a n c := by
  rcases h.2 with ⟨rfl, h0⟩ | ⟨g, cap, cur, rfl, _⟩
  · exact ⟨none, 0, by rw [h0]⟩
  · exact ⟨_, _, rfl⟩

set_option maxHeartbeats 1000000 in
theorem l2Pad_any (a : Option Addr) (n ca m : Nat) (xs : List Int) (w : World) (ha : IRow .u8 w a n xs) (hn : n ≤ m) (hm : m ≤ 4096) :
    Calls Tryd.prog 25 #[.slice a n ca, .int .i64 m] w fun e w' => ∃ s, e = .returned s ∧ w'.ownsRow w.heap.size 5 1 s m (u8s (padL xs m)) ∧ Below w.heap.size w w' := by
  obtain ⟨i0, hi, hz0, hz1, hz2⟩ := info_parts info5
  have HX : Hid (xs.length = n) := ha.1
  go_enter Tryd.func25, Tryd.ntmps25
  go_wp2_with fail
  refine (l1Copy_any _ _ _ xs _ ha (by omega)).mono ?_
  rintro e w1 ⟨s, rfl, hown, hb⟩
  clear ha
  go_wp2
  obtain ⟨a1, c1, rfl⟩ := owns_shape hown
  go_loopw [5] (fun s wr => ∃ (k : Nat) (ad : Option Addr) (c : Nat), k ≤ m - n ∧ s = .slice ad (n + k) c ∧ wr.ownsRow w.heap.size 5 1 (.slice ad (n + k) c) (n + k) (u8s (xs ++ List.replicate k 0)) ∧ Below w.heap.size w wr) (fun s _ => m - lenOf s)
  case atStart => exact ⟨0, a1, c1, Nat.zero_le _, rfl, by simpa using hown, hb⟩
  case round =>
    obtain ⟨k, ad, c, hk, rfl, hown, hbel⟩ := hrel
    have hsz := hbel.size
    by_cases hlt : n + k < m
    · have HS : Hid (u8s (xs ++ List.replicate (k + 1) 0) = u8s (xs ++ List.replicate k 0) ++ [.int .u8 0]) := by
        show _ = _
        rw [List.replicate_succ', ← List.append_assoc, u8s_append]; rfl
      have hlt' : ((n : Int) + (k : Int)) < (m : Int) := by omega
      go_wp2_with (at_builtin; refine wpList_append_own _ rfl _ _ 22 rfl w.heap.size 5 i0 (.int .u8 0) 1 1 Tryd.underlying22 hi hz0 hz1 hz2 rfl (by decide) _ _ _ rfl (hown.alloc _) ⟨wr.heap.size, 0, none⟩ 1 1 [.int .u8 0] rfl rfl one_cell (one_u8 _) (by unfold maxLen; omega) (by omega) (by simp; omega) ?_)
      intro s' w3 hown3 hgrow _
      have hb3 : Below w.heap.size w w3 := (hbel.alloc hsz _).grown hgrow (by simp; omega) (fun k hk => (hown.lt k hk).1)
      have hown4 : w3.ownsRow w.heap.size 5 1 s' (n + (k + 1)) (u8s (xs ++ List.replicate (k + 1) 0)) := by rw [HS.out]; exact hown3
      obtain ⟨ad', c', hs'⟩ := owns_shape hown4
      rw [hs'] at hown4 ⊢
      clear hown3 hown hgrow HS hs'
      go_wp2
      go_roundw
      case rel => exact ⟨k + 1, ad', c', by omega, rfl, hown4, hb3⟩
      case measure => simp [lenOf]; omega
    · have hkm : n + k = m := by omega
      have hfin : wr.ownsRow w.heap.size 5 1 (.slice ad (n + k) c) m (u8s (padL xs m)) := by
        rw [padL, HX.out, show m - n = k from by omega, ← hkm]; exact hown
      have hge : ¬ ((n : Int) + (k : Int)) < (m : Int) := by omega
      have HK : Hid (n + k = m) := hkm
      clear hkm hown
      go_wp2
      go_ret
      exact ⟨_, rfl, hfin, hbel⟩
end Go.Proofs.YtkkammbfomiofabDoor
