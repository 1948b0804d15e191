/-
  Ds, Dt, Dl.
-/
import Derived.Test.YtkkammbfomiofaaDoorDi
import Derived.Laws.IdiomStrings
import Derived.Deep.RegionWith
import Derived.Deep.CutRange
/-
  The specification's DecodeHeader.
-/
namespace Go.Proofs.YtkkammbfomiofaaDoor
open Go.RowKit
set_option linter.unusedSimpArgs false
set_option linter.unusedVariables false

theorem irow_takeN {k : IntKind} {w : World} {a : Option Addr} {n : Nat} {xs : List Int} (j : Nat) (hj : j ≤ n) (h : IRow k w a n xs) : IRow k w a j (xs.take j) := by
  obtain ⟨h1, h2⟩ := h
  refine ⟨by simp [h1]; omega, ?_⟩
  by_cases h0 : j = 0
  · exact .inl h0
  rcases h2 with h2 | ⟨g, off, e, hc⟩
  · omega
  · refine .inr ⟨g, off, e, fun i hi => ?_⟩
    rw [hc i (by omega)]; simp [List.getElem?_take, hi]
def strOf (xs : List Int) : ByteArray := ⟨(xs.map toU).toArray⟩
theorem conv_str {w : World} {a : Option Addr} {n : Nat} (c : Nat) {xs : List Int} (h : IRow .u8 w a n xs) (hb : Byt xs) : (convert 22 9 (.slice a n c)).run Tryd.prog w = .ok (.string (strOf xs)) w := by
  obtain ⟨h1, h2⟩ := h
  rcases h2 with h2 | ⟨g, off, rfl, hc⟩
  · subst h2
    have : xs = [] := List.length_eq_zero_iff.1 h1
    subst this
    rw [run_convert_bytes_string w 22 9 5 a 0 c Tryd.underlying22 Tryd.underlying5 Tryd.underlying9]
    cases a <;> simp [Conv.bytesToString, loadCells, loadCellsFrom] <;> rfl
  · have := run_convert_bytes_back (P := Tryd.prog) w 22 9 5 ⟨g, off, none⟩ c (xs.map toU) Tryd.underlying22 Tryd.underlying5 Tryd.underlying9 (fun j hj => by
      have hj' : j < n := by rw [← h1]; simpa using hj
      rw [show (⟨g, off, none⟩ : Addr).add j = ⟨g, off + j, none⟩ from Addr.add_mid g off j, hc j hj']
      have hx := hb.at j (by rw [h1]; exact hj')
      rw [List.getElem?_eq_getElem (by rw [h1]; exact hj')] at hx ⊢
      simp only [Option.getD_some] at hx ⊢
      rw [List.getElem_map, toU_nat hx])
    rw [List.length_map, h1] at this
    exact this
theorem str_eq {xs ys : List Int} (hx : Byt xs) (hy : Byt ys) : ((strOf ys).toList == (strOf xs).toList) = decide (ys = xs) := by
  have e : ∀ zs : List Int, (strOf zs).toList = zs.map toU := fun zs => by rw [ByteArray.toList_eq]; simp [strOf]
  rw [e, e, toU_inj hy hx]
theorem numI_cons (v : Int) (l : List Int) : l.foldl (fun v b => v * 256 + b) v = v * 256 ^ l.length + numI l := by
  unfold numI
  induction l generalizing v with
  | nil => simp
  | cons b l ih =>
    simp only [List.foldl_cons, List.length_cons]
    rw [ih (v * 256 + b), ih (0 * 256 + b)]
    rw [Int.pow_succ]
    have : (v * 256 + b) * 256 ^ l.length = v * (256 ^ l.length * 256) + (0 * 256 + b) * 256 ^ l.length := by
      rw [Int.add_mul, Int.mul_assoc, Int.mul_comm 256 (256 ^ l.length)]; simp
    omega
theorem numI_bounds {l : List Int} (h : Byt l) : 0 ≤ numI l ∧ numI l < 256 ^ l.length := by
  induction l with
  | nil => simp [numI]
  | cons b l ih =>
    have ⟨i1, i2⟩ := ih (fun x hx => h x (by simp [hx]))
    have hb := h b (by simp)
    have e : numI (b :: l) = b * 256 ^ l.length + numI l := by
      have := numI_cons b l
      simpa [numI] using this
    rw [e, List.length_cons, Int.pow_succ]
    have p : (0 : Int) < 256 ^ l.length := Int.pow_pos (by omega)
    have m1 : 0 ≤ b * 256 ^ l.length := Int.mul_nonneg hb.1 (by omega)
    have m2 : b * 256 ^ l.length ≤ 255 * 256 ^ l.length := Int.mul_le_mul_of_nonneg_right hb.2 (by omega)
    omega
theorem numI_big {xs : List Int} (hx : Byt xs) (hl : xs.length = 64) (h0 : (127 : Int) < xs[0]?.getD 0) : hS xs < 0 := by
  match xs, hl with
  | b :: l, hl =>
    simp only [List.getElem?_cons_zero, Option.getD_some] at h0
    have hb := hx b (by simp)
    have ll : (l.take 7).length = 7 := by simp at hl ⊢; omega
    have hl7 : Byt (l.take 7) := fun x hx' => hx x (by simp [List.mem_of_mem_take hx'])
    have e : numI (b :: l.take 7) = b * 256 ^ 7 + numI (l.take 7) := by
      have := numI_cons b (l.take 7)
      rw [ll] at this
      simpa [numI] using this
    have ⟨i1, i2⟩ := numI_bounds hl7
    rw [ll] at i2
    unfold hS
    rw [List.take_succ_cons, e]
    unfold wrap64
    omega

end Go.Proofs.YtkkammbfomiofaaDoor

/-
  The specification's DecodeHeader: the long way.
-/
namespace Go.Proofs.YtkkammbfomiofaaDoor
open Go.RowKit
set_option linter.unusedSimpArgs false
set_option linter.unusedVariables false

theorem encH_byt (s p q : Int) : Byt (encH s p q) := by
  unfold encH
  split
  · exact hdrL_byt s p q
  · intro x hx; simp at hx
theorem after3 {w : World} (o1 o2 : Obj) : Below w.heap.size w ((w.alloc o1).drew.alloc o2) ∧ ((w.alloc o1).drew.alloc o2).heap[w.heap.size]? = some o1 ∧ ((w.alloc o1).drew.alloc o2).heap[w.heap.size + 1]? = some o2 := by
  obtain ⟨k1, k2, hb, s0⟩ := @two_blocks w o1 o2
  exact ⟨(((Below.refl _ _).alloc (Nat.le_refl _) _).drew).alloc (by simp) _, k1, k2⟩

end Go.Proofs.YtkkammbfomiofaaDoor

/-
  FnExactDecodeHeader: the law's walk.
-/
namespace Go.Proofs.YtkkammbfomiofaaDoor
open Go.RowKit
set_option linter.unusedSimpArgs false
set_option linter.unusedVariables false

theorem decodeHeader_impl (a : Option Addr) (n c : Nat) (xs : List Int) (w : World) (ha : IRow .u8 w a n xs) (hx : Byt xs) (hc : n ≤ c) (hm : c ≤ 9223372036854775807) :
    Calls Tryd.prog 15 #[.slice a n c] w fun e w' => e = .returned (.agg (decV xs)) ∧ Below w.heap.size w w' := by
  by_cases h : n < 12
  · have e := decV_no (decB_len (xs := xs) (by rw [ha.1]; omega))
    rw [e]
    exact decodeHeader_short a n c xs w ha hx h hc hm
  · exact decodeHeader_long a n c xs w ha hx (by omega) hc hm
theorem decV_shape (xs : List Int) : ∃ (b : Bool) (s p q : Int), decV xs = #[.bool b, .int .i64 s, .int .i64 p, .int .i64 q] := by
  cases h : decB xs
  · exact ⟨_, _, _, _, decV_no h⟩
  · exact ⟨_, _, _, _, decV_yes h⟩

end Go.Proofs.YtkkammbfomiofaaDoor
