/-
  Arguments opened: a list of bytes, a list of writes, a disk.
-/
import Derived.Test.YtkkammbfomiofabValidL
import Derived.ProofKit
import Derived.Lib.SmallJoins
import Derived.Deep.Slices
namespace Go.Proofs.Ytkkammbfomiofab
open Go.ChangeShapes Go.WideShapes Go.ChangeAt Go.RowKit
set_option linter.unusedSimpArgs false
set_option linter.unusedVariables false

theorem spot_zero {w : World} {x : Addr} {v : Value} (h : w.cell? (x.add 0) = some v) : x.spot = none := by
  have e : x.add 0 = x := by simp [Addr.add]
  rw [e] at h; exact World.cell?_spot h
theorem add_some {w : World} {x : Addr} {i : Nat} {v : Value} (h : w.cell? (x.add i) = some v) : w.cell? ⟨x.block, x.off + i, none⟩ = some v := by
  obtain ⟨b, off, spot⟩ := x
  by_cases hi : i = 0
  · subst hi
    have := spot_zero h
    simp only at this
    subst this
    simpa [Addr.add] using h
  · simpa [Addr.add, hi] using h

/-- Bytes are bytes. -/
def Bytes (xs : List Int) : Prop := ∀ x ∈ xs, 0 ≤ x ∧ x ≤ 255

theorem wf_u8 {n : Int} (h : (Lit.int .u8 n).wf = true) : 0 ≤ n ∧ n ≤ 255 := by
  have a1 : IntKind.u8.min = 0 := rfl
  have a2 : IntKind.u8.max = 255 := rfl
  simp only [Lit.wf, Bool.and_eq_true, decide_eq_true_eq] at h
  omega

theorem irow_take {k : IntKind} {w : World} {x : Addr} {n : Nat} {zs : List Int} (hn : n ≤ zs.length) (hc : ∀ i, i < zs.length → w.cell? (x.add i) = some (.int k (zs.getD i 0))) : IRow k w (some x) n (zs.take n) := by
  refine ⟨by simp; omega, ?_⟩
  by_cases h0 : n = 0
  · exact .inl h0
  · have hs := spot_zero (hc 0 (by omega))
    refine .inr ⟨x.block, x.off, ?_, fun i hi => ?_⟩
    · obtain ⟨b, off, spot⟩ := x; simp only at hs; rw [hs]
    · rw [add_some (hc i (by omega))]
      simp [List.getD, hi]

section
variable {H : Type} {enc : TypeId × Value → H} {W : World}

theorem cells5 : Try.prog.cellsOf 5 = 1 := by kernel_rfl
theorem cells2 : Try.prog.cellsOf 2 = 1 := by kernel_rfl
theorem cells22 : Try.prog.cellsOf 22 = 1 := by kernel_rfl
theorem cells115 : Try.prog.cellsOf 115 = 2 := by kernel_rfl
theorem cells25 : Try.prog.cellsOf 25 = 2 := by kernel_rfl

theorem open_bytes {fuel : Nat} {cs : List Value} {x : DataW H × List MemPlace} (h : DataW.trod enc Try.prog W 0 (fun _ => true) true fuel 22 cs = some x) :
    ∃ a n c xs, cs = [.slice a n c] ∧ (n : Int) ≤ 9223372036854775807 ∧ IRow .u8 W a n xs ∧ Bytes xs := by
  rcases open_ints Try.underlying22 Try.underlying5 cells5 h with ⟨hcs, _⟩ | ⟨y, l, c, zs, hcs, _, hl, hm, hz, _, hcell, hwz⟩
  · exact ⟨none, 0, 0, [], hcs, by omega, ⟨rfl, .inl rfl⟩, fun x hx => by simp at hx⟩
  · unfold maxLen at hm
    simp only [if_true] at hz
    exact ⟨some y, l, c, zs.take l, hcs, by omega, irow_take (by omega) hcell, fun x hx => wf_u8 (hwz x (List.mem_of_mem_take hx))⟩

set_option maxRecDepth 100000 in
theorem open_write {fuel : Nat} {cs : List Value} {x : DataW H × List MemPlace} (h : DataW.trod enc Try.prog W 0 (fun _ => true) true fuel 115 cs = some x) :
    ∃ v : WV, cs = [.int .i64 v.blk, .slice v.a v.n v.c] ∧ (v.n : Int) ≤ 9223372036854775807 ∧ IRow .u8 W v.a v.n v.bs ∧ Bytes v.bs := by
  obtain ⟨y0, y1, n, hx, hl, h0, h1⟩ := trod_struct2 Try.underlying115 h
  rw [cells115] at hl
  match cs, hl with
  | [u0, u1], _ =>
    have e0 : DataW.trod enc Try.prog W 0 (fun _ => true) true n 2 [u0] = some y0 := h0
    have e1 : DataW.trod enc Try.prog W 0 (fun _ => true) true n 22 [u1] = some y1 := h1
    obtain ⟨b, hb, _, _⟩ := DataW.trod_int Try.underlying2 e0
    obtain ⟨a, m, c, xs, hs, hm, hr, hbs⟩ := open_bytes e1
    injection hb with hb _
    injection hs with hs _
    subst hb; subst hs
    exact ⟨⟨b, a, m, c, xs⟩, rfl, hm, hr, hbs⟩

theorem open_writes {fuel : Nat} {cs : List Value} {x : DataW H × List MemPlace} (h : DataW.trod enc Try.prog W 0 (fun _ => true) true fuel 23 cs = some x) :
    ∃ p m c ws, cs = [.slice p m c] ∧ (m : Int) ≤ 9223372036854775807 ∧ PRaw W p m ws ∧ Lens m ws ∧ ∀ i, i < m → Bytes (wBs ws i) := by
  rcases Deep.open_slice Try.underlying23 h with ⟨hcs, _⟩ | ⟨y, l, c, m, n, D, Pl, hcs, _, hl, hm, hmm, _, hx⟩
  · exact ⟨none, 0, 0, [], hcs, by omega, ⟨rfl, .inl rfl, fun i hi => absurd hi (by omega)⟩, fun i hi => absurd hi (by omega), fun i hi => absurd hi (by omega)⟩
  · unfold maxLen at hm
    simp only [if_true] at hmm
    subst hmm
    rw [cells115] at hx
    have key : ∀ i, i < l → ∃ v : WV, (W.cell? ((y.add (i * 2)).add 0) = some (.int .i64 v.blk) ∧ W.cell? ((y.add (i * 2)).add 1) = some (.slice v.a v.n v.c)) ∧ (v.n : Int) ≤ 9223372036854775807 ∧ IRow .u8 W v.a v.n v.bs ∧ Bytes v.bs := by
      intro i hi
      obtain ⟨cs', h1, h2⟩ := hx i (by omega)
      obtain ⟨v, hv, hn, hr, hb⟩ := open_write h2
      subst hv
      obtain ⟨_, _, hc⟩ := World.cells?_some h1
      exact ⟨v, ⟨by rw [hc 0 (by omega)]; rfl, by rw [hc 1 (by omega)]; rfl⟩, hn, hr, hb⟩
    have iw : Inhabited WV := ⟨wv0⟩
    obtain ⟨f, hf⟩ := @Deep.choose_lt WV iw l _ key
    have eg : ∀ i, i < l → ((List.range l).map f)[i]?.getD wv0 = f i := fun i hi => by simp [hi]
    refine ⟨some y, l, _, (List.range l).map f, hcs, by omega, ⟨by simp, ?_, fun i hi => ?_⟩, fun i hi => ?_, fun i hi => ?_⟩
    · by_cases h0 : l = 0
      · exact .inl h0
      · have h00 := (hf 0 (by omega)).1.1
        rw [Deep.add_add] at h00
        have hs' : y.spot = none := spot_zero h00
        refine .inr ⟨y.block, y.off, ?_, fun i hi => ?_⟩
        · obtain ⟨b, off, spot⟩ := y; simp only at hs'; rw [hs']
        · obtain ⟨⟨q1, q2⟩, _⟩ := hf i hi
          simp only [wBlk, wA, wN, wC, eg i hi]
          rw [Deep.add_add] at q1 q2
          have r1 := add_some q1
          have r2 := add_some q2
          rw [Nat.add_zero] at r1
          exact ⟨r1, by rw [Nat.add_assoc]; exact r2⟩
    · simp only [wA, wN, wBs, eg i hi]; exact (hf i hi).2.2.1
    · simp only [wN, eg i hi]; exact (hf i hi).2.1
    · simp only [wBs, eg i hi]; exact (hf i hi).2.2.2
end
end Go.Proofs.Ytkkammbfomiofab
