/-
  Arguments opened: lists of bytes (seats whose rows hold no list of entries).
-/
import Derived.Test.YtkkammbfomiofaaChl
import Derived.ProofKit
import Derived.OpenShut
import Derived.ChangeOld
import Derived.Deep.Slices
import Derived.Lib.SmallJoins
namespace Go.Proofs.Ytkkammbfomiofaa
open Go.ChangeShapes Go.WideShapes Go.ChangeAt Go.RowKit Go.Joins
set_option linter.unusedSimpArgs false
set_option linter.unusedVariables false

theorem cells5 : Try.prog.cellsOf 5 = 1 := by kernel_rfl

theorem spot_zero {w : World} {x : Addr} {v : Value} (h : w.cell? (x.add 0) = some v) : x.spot = none := by
  have e : x.add 0 = x := by simp [Addr.add]
  rw [e] at h; exact World.cell?_spot h
theorem add_some {w : World} {x : Addr} {i : Nat} {v : Value} (h : w.cell? (x.add i) = some v) : w.cell? ⟨x.block, x.off + i, none⟩ = some v := by
  obtain ⟨b, off, spot⟩ := x
  by_cases hi : i = 0
  · subst hi
    have := spot_zero h
    simp only at this
    subst this
    simpa [Addr.add] using h
  · simpa [Addr.add, hi] using h
theorem irow_take {k : IntKind} {w : World} {x : Addr} {n : Nat} {zs : List Int} (hn : n ≤ zs.length) (hc : ∀ i, i < zs.length → w.cell? (x.add i) = some (.int k (zs.getD i 0))) : IRow k w (some x) n (zs.take n) := by
  refine ⟨by simp; omega, ?_⟩
  by_cases h0 : n = 0
  · exact .inl h0
  · have hs := spot_zero (hc 0 (by omega))
    refine .inr ⟨x.block, x.off, ?_, fun i hi => ?_⟩
    · obtain ⟨b, off, spot⟩ := x; simp only at hs; rw [hs]
    · rw [add_some (hc i (by omega))]
      simp [List.getD, hi]
theorem wf_u8 {n : Int} (h : (Lit.int .u8 n).wf = true) : 0 ≤ n ∧ n ≤ 255 := by
  have a1 : IntKind.u8.min = 0 := rfl
  have a2 : IntKind.u8.max = 255 := rfl
  simp only [Lit.wf, Bool.and_eq_true, decide_eq_true_eq] at h
  omega

theorem open_bytes {H : Type} {enc : TypeId × Value → H} {W : World} {fuel : Nat} {cs : List Value} {x : DataW H × List MemPlace} (h : DataW.trod enc Try.prog W 0 (fun _ => true) true fuel 22 cs = some x) :
    ∃ a n c xs, cs = [.slice a n c] ∧ (n : Int) ≤ 9223372036854775807 ∧ IRow .u8 W a n xs ∧ BytD xs := by
  rcases open_ints Try.underlying22 Try.underlying5 cells5 h with ⟨hcs, _⟩ | ⟨y, l, c, zs, hcs, _, hl, hm, hz, _, hcell, hwz⟩
  · exact ⟨none, 0, 0, [], hcs, by omega, ⟨rfl, .inl rfl⟩, fun x hx => by simp at hx⟩
  · unfold maxLen at hm
    simp only [if_true] at hz
    exact ⟨some y, l, c, zs.take l, hcs, by omega, irow_take (by omega) hcell, fun x hx => wf_u8 (hwz x (List.mem_of_mem_take hx))⟩
end Go.Proofs.Ytkkammbfomiofaa
