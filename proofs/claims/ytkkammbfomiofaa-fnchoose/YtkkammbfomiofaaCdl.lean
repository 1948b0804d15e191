/-
  One element of several cells: built, and handed to append.
-/
import Derived.Great.BuildSlice
import Derived.Test.YtkkammbfomiofaaCdk
namespace Go.Proofs.Ytkkammbfomiofaa
open Go.RowKit
set_option linter.unusedSimpArgs false
set_option linter.unusedVariables false

theorem fold_set (off : Nat) : ∀ (vs : List Value) (k : Nat) (cells : Array Value), off + k + vs.length ≤ cells.size →
    (vs.zipIdx k).foldl (fun (cs : Array Value) (x : Value × Nat) => cs.setIfInBounds (off + x.2) x.1) cells = (cells.toList.take (off + k) ++ vs ++ cells.toList.drop (off + k + vs.length)).toArray
  | [], k, cells, h => by simp
  | v :: vs, k, cells, h => by
    rw [List.zipIdx_cons, List.foldl_cons, fold_set off vs (k + 1) _ (by simp at h ⊢; omega)]
    simp only [List.length_cons] at h
    have hl : off + k < cells.toList.length := by simp; omega
    apply Array.ext'
    simp only [List.toList_toArray, Array.toList_setIfInBounds]
    rw [show off + (k + 1) = off + k + 1 by omega, List.take_succ_eq_append_getElem (by simpa using hl), List.take_set_of_le (Nat.le_refl _), List.getElem_set_self, List.drop_set_of_lt (by omega)]
    simp only [List.append_assoc, List.cons_append, List.nil_append, List.length_cons]
    rw [show off + k + 1 + vs.length = off + k + (vs.length + 1) by omega]

theorem fold_agg (off : Nat) (vs : List Value) (cells : Array Value) (h : off + vs.length ≤ cells.size) :
    (Value.agg vs.toArray).cells.zipIdx.foldl (fun (cs : Array Value) (x : Value × Nat) => cs.setIfInBounds (off + x.2) x.1) cells = (cells.toList.take off ++ vs ++ cells.toList.drop (off + vs.length)).toArray := by
  have := fold_set off vs 0 cells (by omega)
  rw [Nat.add_zero] at this
  rw [← this]
  simp [Value.cells]

/-- A slice of one element of several cells. -/
theorem build_one {P : Program} (w : World) (t e : TypeId) (ie : TypeInfo) (z : Value) (vs : List Value) (hu : P.underlying t = some (.slice e)) (hie : P.info? e = some ie) (hz : ie.zero = some z) (hs : ie.size = vs.length) (hsmall : vs.length ≤ 1000) (hpos : 0 < vs.length) :
    (Instr.buildSlice t 1 #[(0, .agg vs.toArray)]).run P w = .ok (.slice (some ⟨w.heap.size, 0, none⟩) 1 1) (w.alloc (.cells vs.toArray e)) := by
  refine run_buildSlice w t e 1 _ _ ie z hu hie hz (by omega) (by omega) ?_
  have hc : (Value.agg vs.toArray).cells.size = ie.size := by simp [Value.cells, hs]
  simp only [Instr.fill, Nat.zero_mul, hc, Nat.zero_add, Nat.one_mul]
  rw [if_neg (by simp)]
  have := fold_agg 0 vs (Array.map (fun x => z.cells[x % z.cells.size]!) (Array.range ie.size)) (by simp [hs])
  simp only [Nat.zero_add, List.take_zero, List.nil_append] at this
  rw [this, List.drop_eq_nil_of_le (by simp [hs])]
  simp

/-- 65 zeros. -/
def z65 : List Value := .int .i64 0 :: z64
theorem info111 : (Try.prog.info? 111).map (fun i => (i.zero, i.size, i.bytes)) = some (some (.agg z65.toArray), 65, 72) := by kernel_rfl
theorem info60z : (Try.prog.info? 60).map (fun i => (i.zero, i.size, i.bytes)) = some (some (.agg z64.toArray), 64, 64) := by kernel_rfl
theorem infoBB : (Try.prog.info? 60).map (·.size) = some 64 := by kernel_rfl
theorem infoCW : (Try.prog.info? 111).map (·.size) = some 65 := by kernel_rfl
theorem cwL_len (x : Int × List Int) (h : x.2.length = 64) : (cwL x).length = 65 := by simp [cwL, u8s_len, h]
theorem cwL_one (x : Int × List Int) : ∀ u ∈ cwL x, u.oneCell' = true := by
  intro u hu
  simp only [cwL, List.mem_cons] at hu
  rcases hu with rfl | hu
  · rfl
  · exact many_u8 _ u hu

theorem build_cw (W : World) (b : Int) (X : List Int) (hX : X.length = 64) : (Instr.build 111 #[(0, .int .i64 b), (1, .agg (u8s X).toArray)]).run Try.prog W = .ok (.agg (cwL (b, X)).toArray) W := by
  refine run_build W _ _ _ ?_
  have e : ∀ parts, Try.prog.built 111 parts = Instr.fill (fun i => #[(0, 1), (1, 64)][i]?) z65.toArray parts := fun parts => by kernel_rfl
  rw [e]
  have h2 : (Value.agg (u8s X).toArray).cells.size = 64 := by simp [Value.cells, u8s_len, hX]
  obtain ⟨Z, hZ⟩ : ∃ Z, z65.toArray.setIfInBounds 0 (.int .i64 b) = Z := ⟨_, rfl⟩
  have hs : Z.size = 65 := by rw [← hZ]; simp; rfl
  have hl : Z.toList = .int .i64 b :: z64 := by rw [← hZ]; simp [z65]
  have h3 := fold_agg 1 (u8s X) Z (by rw [u8s_len, hX, hs]; omega)
  have ht : Z.toList.take 1 = [.int .i64 b] := by rw [hl]; rfl
  have hd : Z.toList.drop (1 + (u8s X).length) = [] := List.drop_eq_nil_of_le (by rw [u8s_len, hX]; simp [hs])
  rw [ht, hd] at h3
  have s1 : Instr.fill (fun i => #[(0, 1), (1, 64)][i]?) z65.toArray [(0, .int .i64 b), (1, .agg (u8s X).toArray)] = Instr.fill (fun i => #[(0, 1), (1, 64)][i]?) Z [(1, .agg (u8s X).toArray)] := by
    rw [← hZ]
    rfl
  show Instr.fill _ _ [(0, .int .i64 b), (1, .agg (u8s X).toArray)] = _
  rw [s1]
  show (if (Value.agg (u8s X).toArray).cells.size ≠ 64 || 1 + (Value.agg (u8s X).toArray).cells.size > Z.size then none else some ((Value.agg (u8s X).toArray).cells.zipIdx.foldl (fun (cs : Array Value) (x : Value × Nat) => cs.setIfInBounds (1 + x.2) x.1) Z)) = _
  rw [h2, hs, if_neg (by decide), h3]
  simp [cwL]

theorem if_wanted {b : Bool} {p q : Prop} (hb : b = true) (h : p) : if b = true then p else q := by rw [if_pos hb]; exact h
theorem wf_nat (n : Nat) (h : n < 4096) : (Lit.int .i64 (n : Int)).wf = true := by
  simp [Lit.wf, IntKind.min, IntKind.max, IntKind.signed, IntKind.bits]
  omega
end Go.Proofs.Ytkkammbfomiofaa
