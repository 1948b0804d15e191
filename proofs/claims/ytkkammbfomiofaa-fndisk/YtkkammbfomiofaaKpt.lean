/-
  keptBytes.
-/
import Derived.Test.YtkkammbfomiofaaBad
namespace Go.Proofs.Ytkkammbfomiofaa
open Go.RowKit
set_option linter.unusedSimpArgs false
set_option linter.unusedVariables false

/-- How many bytes of a write stay. -/
def kpV : Option Int → Nat
  | none => 0
  | some c => if c < 0 ∨ 64 ≤ c then 64 else c.toNat
def kp (ch : List Int) (i : Nat) : Nat := kpV ch[i]?
theorem kpV_le (o : Option Int) : kpV o ≤ 64 := by
  cases o with
  | none => simp [kpV]
  | some c => simp only [kpV]; split <;> omega
theorem kp_le (ch : List Int) (i : Nat) : kp ch i ≤ 64 := kpV_le _

set_option maxRecDepth 100000 in
set_option maxHeartbeats 1000000 in
theorem kept_any (a : Option Addr) (l lc : Nat) (ch : List Int) (i : Nat) (w : World) (h : IRow .i64 w a l ch) (hl : l ≤ 2097152) (hi : i ≤ 2097152) :
    Calls Try.prog 64 #[.slice a l lc, .int .i64 i] w fun e w' => e = .returned (.int .i64 (kp ch i)) ∧ Below w.heap.size w w' := by
  have hlen := h.1
  by_cases hlt : i < l
  · have hn : ¬ l ≤ i := by omega
    obtain ⟨g, off, rfl, hc⟩ : ∃ g off, a = some ⟨g, off, none⟩ ∧ _ := by
      rcases h.2 with h0 | ⟨g, off, e, hc⟩
      · omega
      · exact ⟨g, off, e, hc⟩
    have c1 := hc i hlt
    have hg : ch[i]? = some (ch[i]?.getD 0) := by rw [List.getElem?_eq_getElem (by omega)]; rfl
    have HK : Hid (kp ch i = kpV (some (ch[i]?.getD 0))) := by show _ = _; rw [kp, ← hg]
    generalize ch[i]?.getD 0 = c at *
    clear h hc hg hlen
    by_cases h0 : c < 0
    · have HV : Hid ((kpV (some c) : Int) = 64) := by show _ = _; simp [kpV, h0]
      go_enter Try.func64, Try.ntmps64
      go_wp2
      go_ret
      exact ⟨by rw [HK.out]; exact ret_int HV.out.symm, Below.refl _ _⟩
    · by_cases h1 : 64 ≤ c
      · have HV : Hid ((kpV (some c) : Int) = 64) := by show _ = _; simp [kpV, h1]
        have u0 : decide (c < 0) = false := by simp [h0]
        go_enter Try.func64, Try.ntmps64
        go_wp2
        go_ret
        exact ⟨by rw [HK.out]; exact ret_int HV.out.symm, Below.refl _ _⟩
      · have HV : Hid ((kpV (some c) : Int) = c) := by show _ = _; simp only [kpV]; rw [if_neg (by omega)]; omega
        have u0 : decide (c < 0) = false := by simp [h0]
        have u1 : decide (64 ≤ c) = false := by simp [h1]
        go_enter Try.func64, Try.ntmps64
        go_wp2
        go_ret
        exact ⟨by rw [HK.out]; exact ret_int HV.out.symm, Below.refl _ _⟩
  · have HK : Hid ((kp ch i : Int) = 0) := by show _ = _; rw [kp, List.getElem?_eq_none (by omega)]; rfl
    have hle : l ≤ i := by omega
    clear h hlen
    go_enter Try.func64, Try.ntmps64
    go_wp2
    go_ret
    exact ⟨ret_int HK.out.symm, Below.refl _ _⟩
end Go.Proofs.Ytkkammbfomiofaa
