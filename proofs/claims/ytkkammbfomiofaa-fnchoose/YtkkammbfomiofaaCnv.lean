/-
  Bytes and strings: there and back, for lists of numbers.
-/
import Derived.Test.YtkkammbfomiofaaDwr
import Derived.Laws.IdiomStrings
namespace Go.Proofs.Ytkkammbfomiofaa
open Go.RowKit
set_option linter.unusedSimpArgs false
set_option linter.unusedVariables false

def ubD (x : Int) : UInt8 := UInt8.ofNat x.toNat
theorem ubD_nat {x : Int} (h : 0 ≤ x ∧ x ≤ 255) : ((ubD x).toNat : Int) = x := by
  unfold ubD; rw [UInt8.toNat_ofNat']; omega
def BytD (xs : List Int) : Prop := ∀ x ∈ xs, 0 ≤ x ∧ x ≤ 255
theorem BytD.at {xs : List Int} (h : BytD xs) (i : Nat) (hi : i < xs.length) : 0 ≤ xs[i]?.getD 0 ∧ xs[i]?.getD 0 ≤ 255 := by
  rw [List.getElem?_eq_getElem hi]; exact h _ (List.getElem_mem hi)
def strD (xs : List Int) : ByteArray := ⟨(xs.map ubD).toArray⟩
theorem strD_size (xs : List Int) : (strD xs).size = xs.length := by simp [strD, ByteArray.size]
theorem strD_list (xs : List Int) : (strD xs).toList = xs.map ubD := by rw [ByteArray.toList_eq]; simp [strD]
/-- A row of bytes as a string. -/
theorem cnv_str {w : World} {a : Option Addr} {n : Nat} (c : Nat) {xs : List Int} (h : IRow .u8 w a n xs) (hb : BytD xs) : (convert 22 9 (.slice a n c)).run Try.prog w = .ok (.string (strD xs)) w := by
  obtain ⟨h1, h2⟩ := h
  rcases h2 with h2 | ⟨g, off, rfl, hc⟩
  · subst h2
    have : xs = [] := List.length_eq_zero_iff.1 h1
    subst this
    rw [run_convert_bytes_string w 22 9 5 a 0 c Try.underlying22 Try.underlying5 Try.underlying9]
    cases a <;> simp [Conv.bytesToString, loadCells, loadCellsFrom] <;> rfl
  · have := run_convert_bytes_back (P := Try.prog) w 22 9 5 ⟨g, off, none⟩ c (xs.map ubD) Try.underlying22 Try.underlying5 Try.underlying9 (fun j hj => by
      have hj' : j < n := by rw [← h1]; simpa using hj
      rw [show (⟨g, off, none⟩ : Addr).add j = ⟨g, off + j, none⟩ from Addr.add_mid g off j, hc j hj']
      have hx := hb.at j (by rw [h1]; exact hj')
      rw [List.getElem?_eq_getElem (by rw [h1]; exact hj')] at hx ⊢
      simp only [Option.getD_some] at hx ⊢
      rw [List.getElem_map, ubD_nat hx])
    rw [List.length_map, h1] at this
    exact this
/-- A string as bytes of one's own. -/
theorem cnv_new (W : World) (zs : List Int) (l : Nat) (hz : BytD zs) (hl : zs.length = l) (h0 : l ≤ 2097152) : ∃ c W', (convert 9 22 (.string (strD zs))).run Try.prog W = .ok (.slice (some ⟨W.heap.size, 0, none⟩) l c) W' ∧ IRow .u8 W' (some ⟨W.heap.size, 0, none⟩) l zs ∧ Below W.heap.size W W' ∧ l ≤ c ∧ c ≤ 9223372036854775807 ∧ W'.heap.size = W.heap.size + 1 := by
  have hr := run_bytes_of_string (P := Try.prog) W 9 22 5 (strD zs) Try.underlying9 Try.underlying22 Try.underlying5
  rw [strD_size, hl] at hr
  have g1 := grownCap_ge W l 0 5
  have g2 := grownCap_le_maxLen W l 0 5 (by unfold maxLen; omega)
  unfold maxLen at g2
  refine ⟨_, _, hr, ⟨hl, .inr ⟨W.heap.size, 0, rfl, fun i hi => ?_⟩⟩, ((Below.refl _ _).drew).alloc (Nat.le_refl _) _, g1, by omega, by simp⟩
  have hd : i < (strD zs).data.size := by have := strD_size zs; simp only [ByteArray.size] at this; omega
  have hh : (W.drew.alloc (.cells (bytesRow (strD zs) (grownCap W l 0 5)) 5 ((bytesRow (strD zs) (grownCap W l 0 5)).size, (bytesRow (strD zs) (grownCap W l 0 5)).size + 1))).heap[W.heap.size]? = some (.cells (bytesRow (strD zs) (grownCap W l 0 5)) 5 ((bytesRow (strD zs) (grownCap W l 0 5)).size, (bytesRow (strD zs) (grownCap W l 0 5)).size + 1)) := heap_alloc_new W.drew _
  rw [Nat.zero_add, cell_of_row _ W.heap.size i _ _ _ hh, bytesRow_at _ _ _ hd]
  have hx := hz.at i (by omega)
  rw [List.getElem?_eq_getElem (by omega)] at hx ⊢
  simp only [Option.getD_some] at hx ⊢
  have : (strD zs).data[i] = ubD zs[i] := by simp [strD]
  rw [this, ubD_nat hx]
end Go.Proofs.Ytkkammbfomiofaa
