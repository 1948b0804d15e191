/-
  Arguments opened: lists of entries, of int64.
-/
import Derived.Test.YtkkammbfomiofacEnt
import Derived.Lib.SmallJoins
import Derived.ProofKit
import Derived.Deep.Slices
namespace Go.Proofs.Ytkkammbfomiofac
open Go.ChangeShapes Go.WideShapes Go.ChangeAt Go.RowKit Go.Joins
set_option linter.unusedSimpArgs false
set_option linter.unusedVariables false

theorem spot_zeroE {w : World} {x : Addr} {v : Value} (h : w.cell? (x.add 0) = some v) : x.spot = none := by
  have e : x.add 0 = x := by simp [Addr.add]
  rw [e] at h; exact World.cell?_spot h
theorem add_someE {w : World} {x : Addr} {i : Nat} {v : Value} (h : w.cell? (x.add i) = some v) : w.cell? ⟨x.block, x.off + i, none⟩ = some v := by
  obtain ⟨b, off, spot⟩ := x
  by_cases hi : i = 0
  · subst hi
    have := spot_zeroE h
    simp only at this
    subst this
    simpa [Addr.add] using h
  · simpa [Addr.add, hi] using h

theorem cells96 : Try.prog.cellsOf 96 = 2 := by kernel_rfl

section
variable {H : Type} {enc : TypeId × Value → H} {W : World}

set_option maxRecDepth 100000 in
theorem open_entry {fuel : Nat} {cs : List Value} {x : DataW H × List MemPlace} (h : DataW.trod enc Try.prog W 0 (fun _ => true) true fuel 96 cs = some x) :
    ∃ v : Int × Bool, cs = [.int .i64 v.1, .bool v.2] := by
  obtain ⟨y0, y1, n, hx, hl, h0, h1⟩ := trod_struct2 Try.underlying96 h
  rw [cells96] at hl
  match cs, hl with
  | [u0, u1], _ =>
    have e0 : DataW.trod enc Try.prog W 0 (fun _ => true) true n 2 [u0] = some y0 := h0
    have e1 : DataW.trod enc Try.prog W 0 (fun _ => true) true n 4 [u1] = some y1 := h1
    obtain ⟨b, hb, _, _⟩ := DataW.trod_int Try.underlying2 e0
    obtain ⟨c, hc, _⟩ := DataW.trod_bool Try.underlying4 e1
    injection hb with hb _
    injection hc with hc _
    subst hb; subst hc
    exact ⟨(b, c), rfl⟩

theorem open_entries {fuel : Nat} {cs : List Value} {x : DataW H × List MemPlace} (h : DataW.trod enc Try.prog W 0 (fun _ => true) true fuel 52 cs = some x) :
    ∃ p m c es, cs = [.slice p m c] ∧ (m : Int) ≤ 9223372036854775807 ∧ ERead W p m es := by
  rcases Deep.open_slice Try.underlying52 h with ⟨hcs, _⟩ | ⟨y, l, c, m, n, D, Pl, hcs, _, hl, hm, hmm, _, hx⟩
  · exact ⟨none, 0, 0, [], hcs, by omega, ⟨rfl, .inl rfl⟩⟩
  · unfold maxLen at hm
    simp only [if_true] at hmm
    subst hmm
    rw [cells96] at hx
    have key : ∀ i, i < l → ∃ v : Int × Bool, W.cell? ((y.add (i * 2)).add 0) = some (.int .i64 v.1) ∧ W.cell? ((y.add (i * 2)).add 1) = some (.bool v.2) := by
      intro i hi
      obtain ⟨cs', h1, h2⟩ := hx i (by omega)
      obtain ⟨v, hv⟩ := open_entry h2
      subst hv
      obtain ⟨_, _, hc⟩ := World.cells?_some h1
      exact ⟨v, by rw [hc 0 (by omega)]; rfl, by rw [hc 1 (by omega)]; rfl⟩
    have iw : Inhabited (Int × Bool) := ⟨(0, false)⟩
    obtain ⟨f, hf⟩ := @Deep.choose_lt (Int × Bool) iw l _ key
    have eg : ∀ i, i < l → ((List.range l).map f)[i]?.getD (0, false) = f i := fun i hi => by simp [hi]
    refine ⟨some y, l, _, (List.range l).map f, hcs, by omega, ⟨by simp, ?_⟩⟩
    by_cases h0 : l = 0
    · exact .inl h0
    · have h00 := (hf 0 (by omega)).1
      rw [Deep.add_add] at h00
      have hs' : y.spot = none := spot_zeroE h00
      refine .inr ⟨y.block, y.off, ?_, fun i hi => ?_⟩
      · obtain ⟨b, off, spot⟩ := y; simp only at hs'; rw [hs']
      · obtain ⟨q1, q2⟩ := hf i hi
        simp only [eA, eI, eg i hi]
        rw [Deep.add_add] at q1 q2
        have r1 := add_someE q1
        have r2 := add_someE q2
        rw [Nat.add_zero] at r1
        exact ⟨r1, by rw [Nat.add_assoc]; exact r2⟩
end
theorem cellsI : Try.prog.cellsOf 2 = 1 := by kernel_rfl
theorem irow_takeO {k : IntKind} {w : World} {x : Addr} {n : Nat} {zs : List Int} (hn : n ≤ zs.length) (hc : ∀ i, i < zs.length → w.cell? (x.add i) = some (.int k (zs.getD i 0))) : IRow k w (some x) n (zs.take n) := by
  refine ⟨by simp; omega, ?_⟩
  by_cases h0 : n = 0
  · exact .inl h0
  · have hs := spot_zeroE (hc 0 (by omega))
    refine .inr ⟨x.block, x.off, ?_, fun i hi => ?_⟩
    · obtain ⟨b, off, spot⟩ := x; simp only at hs; rw [hs]
    · rw [add_someE (hc i (by omega))]
      simp [List.getD, hi]
theorem open_i64 {H : Type} {enc : TypeId × Value → H} {W : World} {fuel : Nat} {cs : List Value} {x : DataW H × List MemPlace} (h : DataW.trod enc Try.prog W 0 (fun _ => true) true fuel 54 cs = some x) :
    ∃ a n c xs, cs = [.slice a n c] ∧ (n : Int) ≤ 9223372036854775807 ∧ IRow .i64 W a n xs := by
  rcases open_ints Try.underlying54 Try.underlying2 cellsI h with ⟨hcs, _⟩ | ⟨y, l, c, zs, hcs, _, hl, hm, hz, _, hcell, hwz⟩
  · exact ⟨none, 0, 0, [], hcs, by omega, ⟨rfl, .inl rfl⟩⟩
  · unfold maxLen at hm
    simp only [if_true] at hz
    exact ⟨some y, l, c, zs.take l, hcs, by omega, irow_takeO (by omega) hcell⟩
end Go.Proofs.Ytkkammbfomiofac
