/-
  lwChoices: nine choices.
-/
import Derived.Test.YtkkammbfomiofaaLwa
import Derived.Test.YtkkammbfomiofaaGa
import Derived.Test.YtkkammbfomiofaaDgv
namespace Go.Proofs.Ytkkammbfomiofaa
open Go.RowKit
set_option linter.unusedSimpArgs false
set_option linter.unusedVariables false

def i64L (xs : List Int) : List Value := xs.map (Value.int .i64)
theorem i64L_len (xs : List Int) : (i64L xs).length = xs.length := by simp [i64L]
theorem owns_i64 {w : World} {B n : Nat} {v : Value} {xs : List Int} (h : w.ownsRow B 2 1 v n (i64L xs)) : ∃ a c, v = .slice a n c ∧ IRow .i64 w a n xs := by
  have hl : xs.length = n := by have := h.1; rw [i64L_len] at this; omega
  rcases h.2 with ⟨rfl, h0⟩ | ⟨g, cap, cur, rfl, hB, hg, hc, hm, hsz, ht⟩
  · exact ⟨none, 0, by rw [h0], hl, .inl h0⟩
  · refine ⟨_, cap, rfl, hl, .inr ⟨g, 0, rfl, fun i hi => ?_⟩⟩
    rw [Nat.zero_add, cell_of_row w g i _ _ _ hg]
    have : (cur.toList.take (n * 1))[i]? = (i64L xs)[i]? := by rw [ht]
    rw [List.getElem?_take, if_pos (by omega), Array.getElem?_toList] at this
    rw [this]
    have hx : i < xs.length := by omega
    simp [i64L, List.getElem?_eq_getElem hx]
theorem one_i64 (x : Int) : ∀ u ∈ [Value.int .i64 x], u.oneCell' = true := by intro u hu; simp at hu; subst hu; rfl
set_option maxHeartbeats 2000000 in
set_option maxRecDepth 100000 in
theorem lwChoices_any (a : Option Addr) (l ca : Nat) (xs : List Int) (i : Nat) (w : World) (h : IRow .u8 w a l xs) (hx : ∀ i, i < l → 0 ≤ xs[i]?.getD 0 ∧ xs[i]?.getD 0 ≤ 255) (hl : l ≤ 2097152) (hi : i ≤ 100) :
    Calls Try.prog 16 #[.slice a l ca, .int .i64 i] w fun e w' => ∃ a' c' ch, e = .returned (.slice a' 9 c') ∧ IRow .i64 w' a' 9 ch ∧ Below w.heap.size w w' := by
  obtain ⟨i0, hi0, hz0, hz1, hz2⟩ := info_parts info2
  have HX := Hid.out hx
  have HI : Hid (IRow .u8 w a l xs) := h
  have HE : Hid ((w.alloc (Obj.cells #[] 2)).ownsRow w.heap.size 2 1 (.slice (some ⟨w.heap.size, 0, none⟩) 0 0) 0 (i64L [])) := World.ownsRow_made w #[] 0 (Nat.le_refl _) (Nat.zero_le _) rfl
  have HBE : Hid (Below w.heap.size w (w.alloc (Obj.cells #[] 2))) := (Below.refl _ w).alloc (Nat.le_refl _) _
  clear hx h
  go_enter Try.func16, Try.ntmps16
  go_wp2
  go_loopw [5, 6] (fun o q wr => ∃ (k : Nat) (ad : Option Addr) (c : Nat) (ch : List Int), k ≤ 9 ∧ o = .slice ad k c ∧ q = .int .i64 k ∧ Hid (wr.ownsRow w.heap.size 2 1 (.slice ad k c) k (i64L ch)) ∧ Hid (Below w.heap.size w wr)) (fun _ q _ => 9 - (intOf q).toNat)
  case atStart => exact ⟨0, _, _, [], Nat.zero_le _, rfl, rfl, HE, HBE⟩
  case round =>
    obtain ⟨k, ad, c, ch, hk, rfl, rfl, ho, hbl⟩ := hrel
    clear HE HBE
    by_cases hlt : k < 9
    · have hsz := hbl.out.size
      have e2 : Hid ((i : Int) + (k : Int) = ((i + k : Nat) : Int)) := by show _ = _; push_cast; rfl
      go_wp2_with fail
      rw [e2.out]
      refine (lwAt_any a l ca xs (i + k) 70 _ (HI.out.below hbl.out) HX hl (by omega) (by omega) (by omega)).mono ?_
      rintro e w1 ⟨v, rfl, ⟨v0, v1⟩, hb1⟩
      have ho1 : w1.ownsRow w.heap.size 2 1 (.slice ad k c) k (i64L ch) := row_kept ho.out (Kept.of_below hb1 (fun _ => False)) (fun _ _ h => h)
      have hbl1 : Below w.heap.size w w1 := hbl.out.trans (hb1.mono hsz)
      have hs1 := hbl1.size
      have HBL1 : Hid (Below w.heap.size w w1) := hbl1
      clear ho hbl hb1 hbl1 e2
      go_wp2_with (at_builtin; refine wpList_append_own _ rfl _ _ 40 rfl w.heap.size 2 i0 (.int .i64 0) 1 8 Try.underlying40 hi0 hz0 hz1 hz2 rfl (by decide) _ _ _ rfl (ho1.alloc _) ⟨w1.heap.size, 0, none⟩ 1 1 [.int .i64 (v - 2)] rfl rfl one_cell (one_i64 _) (by unfold maxLen; omega) (by omega) (by simp; omega) ?_)
      intro s' w3 hown3 hgrow _
      have hb3 : Hid (Below w.heap.size w w3) := (HBL1.out.alloc hs1 _).grown hgrow (by simp; omega) (fun q hq => (ho1.lt q hq).1)
      have ho3 : w3.ownsRow w.heap.size 2 1 s' (k + 1) (i64L (ch ++ [v - 2])) := by rw [i64L, List.map_append]; exact hown3
      obtain ⟨ad', c', rfl⟩ := owns_shape ho3
      have HO3 : Hid (w3.ownsRow w.heap.size 2 1 (.slice ad' (k + 1) c') (k + 1) (i64L (ch ++ [v - 2]))) := ho3
      clear hown3 hgrow ho3 ho1
      go_wp2
      go_roundw
      case rel => exact ⟨k + 1, ad', c', _, by omega, rfl, by go_num, HO3, hb3⟩
      case measure => simp [intOf]; omega
    · obtain rfl : k = 9 := by omega
      obtain ⟨a9, c9, e9, r9⟩ := owns_i64 ho.out
      injection e9 with e9 _ _
      subst e9
      have HR : Hid (IRow .i64 wr ad 9 ch) := r9
      clear r9 ho
      go_wp2
      go_ret
      exact ⟨_, ⟨_, rfl⟩, ⟨ch, HR.out⟩, hbl.out⟩
end Go.Proofs.Ytkkammbfomiofaa
