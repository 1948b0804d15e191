/-
  The zeros behind a text cut off.
-/
import Derived.Test.YtkkammbfomiofaaDoorRd
import Derived.Lib.Strings
import Derived.Lib.TrimByte
import Derived.Laws.Strings3
namespace Go.Proofs.YtkkammbfomiofaaDoor
open Go.RowKit
set_option linter.unusedSimpArgs false
set_option linter.unusedVariables false

/-- How long a text is. -/
def strLen (v : Value) : Nat := match v with | .string s => s.size | _ => 0
/-- The text of the first k letters. -/
def preT (l : List UInt8) (k : Nat) : ByteArray := ⟨(l.take k).toArray⟩
theorem preT_size {l : List UInt8} {k : Nat} (h : k ≤ l.length) : (preT l k).size = k := by simp [preT, ByteArray.size]; omega
theorem preT_cut (l : List UInt8) (k : Nat) : (preT l (k + 1)).extract 0 k = preT l k := by
  unfold preT
  rw [Lib.extract_mk, List.drop_zero, List.take_take]
  congr 3
  omega
theorem preT_last {l : List UInt8} {k : Nat} (h : k < (preT l (k + 1)).size) : l[k]? = some ((preT l (k + 1))[k]'h) := by
  unfold preT at h ⊢
  rw [← Lib.getElem_mk (l.take (k + 1)) k h, List.getElem?_take, if_pos (by omega)]
theorem preT_all (l : List UInt8) : preT l l.length = ⟨l.toArray⟩ := by unfold preT; rw [List.take_length]
set_option maxHeartbeats 1000000 in
set_option maxRecDepth 100000 in
theorem trimRightByte_zero (l : List UInt8) (hl : l.length ≤ 1048576) (w : World) :
    Calls Tryd.prog 53 #[.string ⟨l.toArray⟩, .int .u8 0] w fun e w' => e = .returned (.string ⟨(Lib.trimRightB l 0).toArray⟩) ∧ w' = w := by
  rw [← preT_all l]
  go_enter Tryd.func53, Tryd.ntmps53
  go_wp2
  go_loop [0] (fun v => ∃ k : Nat, k ≤ l.length ∧ v = .string (preT l k) ∧ ∀ (j : Nat) b, k ≤ j → l[j]? = some b → b = 0) (fun v => strLen v)
  case atStart =>
    refine ⟨l.length, Nat.le_refl _, rfl, fun j b hj hb => ?_⟩
    simp [List.getElem?_eq_none hj] at hb
  case round =>
    obtain ⟨k, hk, rfl, hc⟩ := hrel
    have HC := Hid.out hc
    have hts := preT_size hk
    cases k with
    | zero =>
      have HE : Hid (Lib.trimRightB l 0 = l.take 0) := Lib.trimRightB_take l 0 0 hk hc (fun b h => by omega)
      generalize ht : preT l 0 = t at *
      have HT : Hid (preT l 0 = t) := ht
      clear hc ht
      go_wp2
      go_ret
      refine ⟨?_, rfl⟩
      rw [HE.out, ← HT.out]
      rfl
    | succ k =>
      have h1 : k < (preT l (k + 1)).size := by omega
      have hb := preT_last h1
      have hx := preT_cut l k
      have HX : Hid ((preT l (k + 1)).extract 0 k = preT l k) := hx
      generalize ht : preT l (k + 1) = t at *
      have HT : Hid (preT l (k + 1) = t) := ht
      clear hc ht
      by_cases heq : t[k]'h1 = 0
      · have heq' : ((t[k]'h1).toNat : Int) = 0 := by rw [heq]; rfl
        have HB : Hid (l[k]? = some (t[k]'h1)) := hb
        clear hb
        go_wp2
        refine ⟨⟨k, by omega, rfl, fun j b hj h => ?_⟩, ?_⟩
        · by_cases e : j = k
          · subst e
            rw [HB.out] at h
            injection h with h
            rw [← h]; exact heq
          · exact HC j b (by omega) h
        · show (preT l k).size < t.size
          rw [preT_size (by omega)]
          omega
      · have hne : (((t[k]'h1).toNat : Int) == 0) = false := by
          simp only [beq_eq_false_iff_ne, ne_eq]
          intro e
          exact heq (UInt8.toNat_inj.1 (by have : (0 : UInt8).toNat = 0 := rfl; omega))
        have HE : Hid (Lib.trimRightB l 0 = l.take (k + 1)) := Lib.trimRightB_take l 0 (k + 1) hk HC (fun b _ h => by
          rw [Nat.add_sub_cancel, hb] at h
          injection h with h
          rw [← h]; exact heq)
        clear hb
        go_wp2
        go_ret
        refine ⟨?_, rfl⟩
        show Ending.returned (Value.string t) = _
        rw [HE.out, ← HT.out]
        rfl
set_option maxHeartbeats 1000000 in
set_option maxRecDepth 100000 in
theorem trimRight_zero (l : List UInt8) (hl : l.length ≤ 1048576) (w : World) :
    Calls Tryd.prog 47 #[.string ⟨l.toArray⟩, .string ⟨#[0]⟩] w fun e w' => e = .returned (.string ⟨(Lib.trimRightB l 0).toArray⟩) ∧ w' = w := by
  have hsz : (⟨l.toArray⟩ : ByteArray).size = l.length := by simp [ByteArray.size]
  by_cases h0 : l = []
  · subst h0
    go_enter Tryd.func47, Tryd.ntmps47
    go_wp2
    go_ret
    exact ⟨rfl, rfl⟩
  · have hne : l.isEmpty = false := by cases l <;> simp_all
    go_enter Tryd.func47, Tryd.ntmps47
    go_wp2_with fail
    refine (trimRightByte_zero l hl w).mono ?_
    rintro e w' ⟨rfl, rfl⟩
    go_wp2
    go_ret
    exact ⟨rfl, rfl⟩
end Go.Proofs.YtkkammbfomiofaaDoor
