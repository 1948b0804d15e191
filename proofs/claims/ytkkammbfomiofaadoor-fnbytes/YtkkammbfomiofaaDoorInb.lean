/-
  Inodes as blocks: the specification's EncodeInode, the program's inodeBlock.
-/
import Derived.Test.YtkkammbfomiofaaDoorInv
namespace Go.Proofs.YtkkammbfomiofaaDoor
open Go.RowKit
set_option linter.unusedSimpArgs false
set_option linter.unusedVariables false

/-- The bytes of a name. -/
def nmL (nm : ByteArray) : List Int := nm.data.toList.map fun c => (c.toNat : Int)
theorem nmL_len (nm : ByteArray) : (nmL nm).length = nm.size := by simp [nmL]
def lidL (xs : List Int) : List Int := xs.flatMap fun x => beB x 2
/-- The block of an inode. -/
def inoL (nm : ByteArray) (z : Int) (xs : List Int) : List Int := padL (padL (nmL nm) 16 ++ beB z 2 ++ lidL xs) 64
def encI (nm : ByteArray) (z : Int) (xs : List Int) : List Int := if inoB nm z xs = true then inoL nm z xs else []
theorem lidL_len (xs : List Int) : (lidL xs).length = xs.length * 2 := by
  induction xs with
  | nil => rfl
  | cons x xs ih => simp only [lidL, List.flatMap_cons, List.length_append, beB_len, List.length_cons] at ih ⊢; omega
theorem lidL_succ (xs : List Int) (k : Nat) (h : k < xs.length) : lidL (xs.take (k + 1)) = lidL (xs.take k) ++ beB (xs[k]?.getD 0) 2 := by
  rw [List.take_succ_eq_append_getElem h]
  simp only [lidL, List.flatMap_append, List.flatMap_cons, List.flatMap_nil, List.append_nil, List.getElem?_eq_getElem h, Option.getD_some]
theorem ino_facts {nm : ByteArray} {z : Int} {xs : List Int} (h : inoB nm z xs = true) : (1 ≤ nm.size ∧ nm.size ≤ 16) ∧ (0 ≤ z ∧ z ≤ 1408) ∧ (xs.length : Int) = nblk z ∧ xs.length ≤ 22 ∧ ∀ x ∈ xs, 1 ≤ x ∧ x ≤ 65535 := by
  simp only [inoB, nameB, lidsB, Bool.and_eq_true, decide_eq_true_eq, List.all_eq_true] at h
  obtain ⟨⟨_, h1⟩, h2, h3, h4⟩ := h
  refine ⟨h1, h2, h3, by unfold nblk at h3; omega, fun x hx => ?_⟩
  have := h4 x hx
  simp only [lidB, Bool.and_eq_true, decide_eq_true_eq] at this
  exact this
theorem ino_lid {nm : ByteArray} {z : Int} {xs : List Int} (h : inoB nm z xs = true) (k : Nat) (hk : k < xs.length) : 1 ≤ xs[k]?.getD 0 ∧ xs[k]?.getD 0 ≤ 65535 := by
  have := (ino_facts h).2.2.2.2 xs[k] (List.getElem_mem hk)
  simpa [List.getElem?_eq_getElem hk] using this

theorem conv_row (w : World) (nm : ByteArray) (cap : Nat) (m : Nat × Nat) : IRow .u8 (w.alloc (.cells (bytesRow nm cap) 5 m)).drew (some ⟨w.heap.size, 0, none⟩) nm.size (nmL nm) := by
  refine ⟨nmL_len nm, .inr ⟨w.heap.size, 0, rfl, fun i hi => ?_⟩⟩
  rw [Nat.zero_add, conv_cell w nm cap m i hi]
  simp only [nmL, List.getElem?_map]
  rw [List.getElem?_eq_getElem (by simpa using hi)]
  simp
  rfl
theorem owns_belowI {w w' : World} {B e sz n : Nat} {s : Value} {xs : List Value} (h : w.ownsRow B e sz s n xs) (hb : Below w.heap.size w w') : w'.ownsRow B e sz s n xs :=
  h.kept (row := none) ⟨hb.os, hb.tape, hb.output, hb.size, fun k hk _ => hb.block k hk⟩ (by cases hv : s.ownBlock <;> simp)
theorem owns_baseI {w : World} {B B' e sz n : Nat} {s : Value} {xs : List Value} (h : w.ownsRow B e sz s n xs) (hB : B' ≤ B) : w.ownsRow B' e sz s n xs := by
  refine ⟨h.1, h.2.imp id ?_⟩
  rintro ⟨g, cap, cur, e1, hg, rest⟩
  exact ⟨g, cap, cur, e1, by omega, rest⟩

set_option maxHeartbeats 4000000 in
set_option maxRecDepth 100000 in
theorem encodeInode_spec (nm : ByteArray) (z : Int) (a : Option Addr) (n ca : Nat) (xs : List Int) (w : World) (ha : IRow .i64 w a n xs) (hs : nm.size ≤ 1048576) (hn : n ≤ 2097152) :
    Calls Tryd.prog 6 #[.agg #[.string nm, .int .i64 z, .slice a n ca]] w fun e w' => ∃ s, e = .returned s ∧ w'.ownsRow w.heap.size 5 1 s (encI nm z xs).length (u8s (encI nm z xs)) ∧ Below w.heap.size w w' := by
  obtain ⟨i0, hi, hz0, hz1, hz2⟩ := info_parts info5
  cases h : inoB nm z xs
  · have HF : Hid (encI nm z xs = []) := by show _ = _; unfold encI; rw [h]; rfl
    go_enter Tryd.func6, Tryd.ntmps6
    go_wp2_with fail
    refine (validInode_spec nm z _ _ _ xs _ (ha.allocI _) hs hn).mono ?_
    rintro e w1 ⟨rfl, hb⟩
    rw [h]
    have hb1 : Below w.heap.size w w1 := ((Below.refl _ _).alloc (Nat.le_refl _) _).trans (hb.mono (by simp))
    clear hb ha
    go_wp2
    go_ret
    refine ⟨_, rfl, ?_, hb1.alloc hb1.size _⟩
    rw [HF.out]
    exact World.ownsRow_made w1 #[] 0 hb1.size (Nat.zero_le _) rfl
  have HF : Hid (encI nm z xs = inoL nm z xs) := by show _ = _; unfold encI; rw [h]; rfl
  obtain ⟨⟨f1, f2⟩, ⟨f3, f4⟩, f5, f6, f7⟩ := ino_facts h
  have HX : Hid (xs.length = n) := ha.1
  have hn22 : n ≤ 22 := by have := ha.1; omega
  have hz4 : z ≤ 4611686018427387904 := by omega
  have HLID : Hid (∀ k, k < n → 1 ≤ xs[k]?.getD 0 ∧ xs[k]?.getD 0 ≤ 65535) := fun k hk => ino_lid h k (by rw [HX.out]; exact hk)
  have HA : Hid (IRow .i64 w a n xs) := ha
  have hcv := fun w s => run_bytes_of_string (P := Tryd.prog) w 9 22 5 s Tryd.underlying9 Tryd.underlying22 Tryd.underlying5
  clear f5 f6 f7
  go_enter Tryd.func6, Tryd.ntmps6
  go_wp2_with fail
  refine (validInode_spec nm z _ _ _ xs _ (ha.allocI _) hs hn).mono ?_
  rintro e w1 ⟨rfl, hb⟩
  rw [h]
  have hb1 : Below w.heap.size w w1 := ((Below.refl _ _).alloc (Nat.le_refl _) _).trans (hb.mono (by simp))
  have k1 := (hb.block w.heap.size (by simp)).trans (heap_alloc_new w _)
  obtain ⟨⟨p1, p2, p3⟩, _, _, _⟩ := three_cellsI k1
  have s1 : w.heap.size < w1.heap.size := (Array.getElem?_eq_some_iff.1 k1).1
  clear hb ha h
  go_wp2_with fail
  refine (l2Pad_any _ _ _ 16 _ _ (conv_row w1 nm _ _) (by omega) (by omega)).mono ?_
  rintro e w2 ⟨sv2, rfl, own2, hb2⟩
  have hb2' : Below w1.heap.size w1 w2 := ((Below.refl _ _).alloc (Nat.le_refl _) _).drew.trans (hb2.mono (by simp))
  have hB2 : Below w.heap.size w w2 := hb1.trans (hb2'.mono hb1.size)
  have k2 := (hb2'.block w.heap.size s1).trans k1
  have s2 : w.heap.size < w2.heap.size := (Array.getElem?_eq_some_iff.1 k2).1
  have own2b : w2.ownsRow (w.heap.size + 1) 5 1 sv2 16 (u8s (padL (nmL nm) 16)) := owns_baseI own2 (by simp; omega)
  obtain ⟨⟨q1, q2, q3⟩, _, _, _⟩ := three_cellsI k2
  clear hb2 hb2' own2 k1 p1 p2 p3 hb1
  go_wp2_with fail
  refine (l2Big_any 2 z _ f3 hz4 (by omega)).mono ?_
  rintro e w3 ⟨s3, rfl, own3, hb3⟩
  obtain ⟨g3, c3, rfl, hc3, _⟩ := owns_some own3 (by omega)
  have own2c := owns_belowI own2b hb3
  have hB3 : Below w.heap.size w w3 := hB2.trans (hb3.mono hB2.size)
  have k3 := (hb3.block w.heap.size s2).trans k2
  have sz3 : w.heap.size < w3.heap.size := (Array.getElem?_eq_some_iff.1 k3).1
  clear own2b own3 hb3 k2 q1 q2 q3 hB2
  go_wp2_with (at_builtin; refine wpList_append_own _ rfl _ _ 22 rfl (w.heap.size + 1) 5 i0 (.int .u8 0) 1 1 Tryd.underlying22 hi hz0 hz1 hz2 rfl (by decide) _ _ _ rfl own2c ⟨g3, 0, none⟩ 2 c3 _ rfl (by rw [u8s_len, beB_len]) hc3 (many_u8 _) (by unfold maxLen; omega) (by omega) (by omega) ?_)
  intro v4 w4 own4 grow4 _
  have hB4 : Below w.heap.size w w4 := hB3.grown grow4 (by omega) (fun k hk => by have := (own2c.lt k hk).1; omega)
  have k4 := (grow4.block w.heap.size sz3 (fun e => by have := (own2c.lt _ e.symm).1; omega)).trans k3
  rw [← u8s_append] at own4
  clear own2c grow4 hc3 k3 hB3
  go_wp2
  go_loopw [3, 4] (fun s i wr => ∃ k : Nat, k ≤ n ∧ i = .int .i64 k ∧ wr.ownsRow (w.heap.size + 1) 5 1 s (18 + k * 2) (u8s (padL (nmL nm) 16 ++ beB z 2 ++ lidL (xs.take k))) ∧ Below w.heap.size w wr ∧ wr.heap[w.heap.size]? = some (.cells #[.string nm, .int .i64 z, .slice a n ca] 25 (0, 0))) (fun _ i _ => n - (intOf i).toNat)
  case atStart => exact ⟨0, Nat.zero_le _, rfl, by simpa [lidL] using own4, hB4, k4⟩
  case round =>
    obtain ⟨k, hk, rfl, own5, hB5, k5⟩ := hrel
    obtain ⟨⟨q1, q2, q3⟩, _, _, _⟩ := three_cellsI k5
    have s5 : w.heap.size < wr.heap.size := (Array.getElem?_eq_some_iff.1 k5).1
    by_cases hlt : k < n
    · rcases HA.out.2 with h0 | ⟨g, off, he, hc⟩
      · omega
      subst he
      have c1 := hc k hlt
      rw [← hB5.cell (World.block_lt_of_cell? w _ c1)] at c1
      obtain ⟨l1, l2⟩ := HLID.out k hlt
      have HE : Hid (u8s (padL (nmL nm) 16 ++ beB z 2 ++ lidL (xs.take (k + 1))) = u8s (padL (nmL nm) 16 ++ beB z 2 ++ lidL (xs.take k)) ++ u8s (beB (xs[k]?.getD 0) 2)) := by
        show _ = _
        rw [lidL_succ xs k (by rw [HX.out]; exact hlt), ← List.append_assoc, u8s_append]
      have l3 : xs[k]?.getD 0 ≤ 4611686018427387904 := by omega
      have l4 : 0 ≤ xs[k]?.getD 0 := by omega
      generalize xs[k]?.getD 0 = x at *
      clear hc own4 hB4 k4
      go_wp2_with fail
      refine (l2Big_any 2 x _ l4 l3 (by omega)).mono ?_
      rintro e w6 ⟨s6, rfl, own6, hb6⟩
      obtain ⟨g6, c6, rfl, hc6, _⟩ := owns_some own6 (by omega)
      have own5c := owns_belowI own5 hb6
      have hB6 : Below w.heap.size w w6 := hB5.trans (hb6.mono hB5.size)
      have k6 := (hb6.block w.heap.size s5).trans k5
      have s6 : w.heap.size < w6.heap.size := (Array.getElem?_eq_some_iff.1 k6).1
      clear own5 own6 hb6 k5 q1 q2 q3 c1 hB5
      go_wp2_with (at_builtin; refine wpList_append_own _ rfl _ _ 22 rfl (w.heap.size + 1) 5 i0 (.int .u8 0) 1 1 Tryd.underlying22 hi hz0 hz1 hz2 rfl (by decide) _ _ _ rfl own5c ⟨g6, 0, none⟩ 2 c6 _ rfl (by rw [u8s_len, beB_len]) hc6 (many_u8 _) (by unfold maxLen; omega) (by omega) (by omega) ?_)
      intro v7 w7 own7 grow7 _
      have hB7 : Below w.heap.size w w7 := hB6.grown grow7 (by omega) (fun k hk => by have := (own5c.lt k hk).1; omega)
      have k7 := (grow7.block w.heap.size s6 (fun e => by have := (own5c.lt _ e.symm).1; omega)).trans k6
      have own8 : w7.ownsRow (w.heap.size + 1) 5 1 v7 (18 + (k + 1) * 2) (u8s (padL (nmL nm) 16 ++ beB z 2 ++ lidL (xs.take (k + 1)))) := by
        rw [HE.out, show 18 + (k + 1) * 2 = 18 + k * 2 + 2 from by omega, List.append_assoc]; exact own7
      clear own7 own5c grow7 hc6 k6 hB6 HE
      go_wp2
      go_roundw
      case rel => exact ⟨k + 1, by omega, by go_num, own8, hB7, k7⟩
      case measure => simp [intOf]; omega
    · have hkn : k = n := by omega
      subst hkn
      rw [List.take_of_length_le (by rw [HX.out]; exact Nat.le_refl _)] at own5
      obtain ⟨a5, c5, rfl, r5⟩ := owns_row own5
      have s9 := hB5.size
      clear own4 hB4 k4 own5 k5
      go_wp2_with fail
      refine (l2Pad_any _ _ _ 64 _ _ r5.read (by omega) (by omega)).mono ?_
      rintro e w9 ⟨s9v, rfl, own9, hb9⟩
      have hfin : w9.ownsRow w.heap.size 5 1 s9v (encI nm z xs).length (u8s (encI nm z xs)) ∧ Below w.heap.size w w9 := by
        refine ⟨?_, hB5.trans (hb9.mono hB5.size)⟩
        have hl : (padL (nmL nm) 16 ++ beB z 2 ++ lidL xs).length ≤ 64 := by
          rw [List.length_append, List.length_append, padL_len _ _ (by rw [nmL_len]; omega), beB_len, lidL_len, HX.out]; omega
        rw [HF.out, inoL, padL_len _ _ hl]
        exact owns_baseI own9 hB5.size
      clear own9 hb9 r5
      go_wp2
      go_ret
      exact ⟨_, rfl, hfin.1, hfin.2⟩
end Go.Proofs.YtkkammbfomiofaaDoor
