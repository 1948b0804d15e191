/-
  EncodeInode and EncodeHeader: the capacity of what they give.
-/
import Derived.Test.YtkkammbfomiofaaDoorInz
import Derived.Test.YtkkammbfomiofaaDoorHdr
namespace Go.Proofs.YtkkammbfomiofaaDoor
open Go.RowKit
set_option linter.unusedSimpArgs false
set_option linter.unusedVariables false

set_option maxHeartbeats 1000000 in
theorem encodeInode_fix (nm : ByteArray) (z : Int) (a : Option Addr) (n ca : Nat) (xs : List Int) (w : World) (ha : IRow .i64 w a n xs) (hs : nm.size ≤ 1048576) (hn : n ≤ 2097152) :
    Calls Tryd.prog 5 #[.agg #[.string nm, .int .i64 z, .slice a n ca]] w fun e w' => ∃ a', e = .returned (.slice a' (encI nm z xs).length (encI nm z xs).length) ∧ Row .u8 (fun g => w.heap.size ≤ g ∧ g < w'.heap.size) w' a' (encI nm z xs).length (encI nm z xs) ∧ Below w.heap.size w w' := by
  have HA : Hid (IRow .i64 w a n xs) := ha
  cases h : inoB nm z xs
  · have HF : Hid (encI nm z xs = []) := by show _ = _; unfold encI; rw [h]; rfl
    go_enter Tryd.func5, Tryd.ntmps5
    go_wp2_with fail
    refine (validInode_impl nm z _ _ _ xs _ (ha.allocI _) hs hn).mono ?_
    rintro e w1 ⟨rfl, hb⟩
    rw [h]
    have hb1 : Below w.heap.size w w1 := ((Below.refl _ _).alloc (Nat.le_refl _) _).trans (hb.mono (by simp))
    clear hb ha
    go_wp2
    go_ret
    refine ⟨some ⟨w1.heap.size, 0, none⟩, ?_, ?_, hb1.alloc hb1.size _⟩
    · rw [HF.out]; rfl
    · rw [HF.out]; exact ⟨rfl, .inl rfl⟩
  · have HF : Hid (encI nm z xs = inoL nm z xs) := by show _ = _; unfold encI; rw [h]; rfl
    have HN : Hid ((inoL nm z xs).length = 64) := inoL_len h
    have hX : (u8s (inoL nm z xs)).toArray.size = 64 := by rw [List.size_toArray, u8s_len, HN.out]
    have h1X := u8_allI (inoL nm z xs)
    go_enter Tryd.func5, Tryd.ntmps5
    go_wp2_with fail
    refine (validInode_impl nm z _ _ _ xs _ (ha.allocI _) hs hn).mono ?_
    rintro e w1 ⟨rfl, hb⟩
    rw [h]
    have hb1 : Below w.heap.size w w1 := ((Below.refl _ _).alloc (Nat.le_refl _) _).trans (hb.mono (by simp))
    have k0 := (hb.block w.heap.size (by simp)).trans (heap_alloc_new w _)
    obtain ⟨⟨c0, c1, c2⟩, _, _, _⟩ := three_cellsI k0
    clear hb k0 ha
    go_wp2_with fail
    refine (inodeBlock_any nm z _ _ _ xs _ (HA.out.below hb1) h).mono ?_
    rintro e w2 ⟨rfl, hb2⟩
    have hb3 : Below w.heap.size w w2 := hb1.trans (hb2.mono hb1.size)
    have s3 := hb3.size
    generalize hXe : (u8s (inoL nm z xs)).toArray = X at *
    have HXe : Hid ((u8s (inoL nm z xs)).toArray = X) := hXe
    clear hXe hb2 c0 c1 c2 hb1 h
    go_wp2_with (refine wpList_store_row rfl 52 _ _ rfl w2.heap.size X rfl rfl 52 _ (heap_alloc_new w2 _) (by rw [hX]; exact info52b) (by rw [hX]; rfl) h1X ?_)
    go_ret
    have hg := setRow_heap (w2.alloc _) w2.heap.size _ X 52 _ (heap_alloc_new w2 (.cells z64.toArray 52))
    rw [z64_lit] at hg
    refine ⟨some ⟨w2.heap.size, 0, none⟩, ?_, ?_, below_setRow (hb3.alloc s3 _) s3 X⟩
    · rw [HF.out, HN.out]; rfl
    · rw [HF.out]
      rw [← HXe.out] at hg ⊢
      exact row_of_blockI hg ⟨s3, by simp⟩

set_option maxHeartbeats 1000000 in
theorem encodeHeader_fix (s p q : Int) (w : World) :
    Calls Tryd.prog 13 #[.agg #[.int .i64 s, .int .i64 p, .int .i64 q]] w fun e w' => ∃ a, e = .returned (.slice a (encH s p q).length (encH s p q).length) ∧ Row .u8 (fun g => w.heap.size ≤ g ∧ g < w'.heap.size) w' a (encH s p q).length (encH s p q) ∧ Below w.heap.size w w' := by
  cases h : hdrB s p q
  · have HF : Hid (encH s p q = []) := by show _ = _; unfold encH; rw [h]; rfl
    go_enter Tryd.func13, Tryd.ntmps13
    go_wp2_with fail
    refine (validHeader_any s p q _).mono ?_
    rintro e w1 ⟨rfl, hb⟩
    rw [h]
    have hb1 : Below w.heap.size w w1 := ((Below.refl _ _).alloc (Nat.le_refl _) _).trans (hb.mono (by simp))
    clear hb
    go_wp2
    go_ret
    refine ⟨some ⟨w1.heap.size, 0, none⟩, ?_, ?_, hb1.alloc hb1.size _⟩
    · rw [HF.out]; rfl
    · rw [HF.out]; exact ⟨rfl, .inl rfl⟩
  · have HF : Hid (encH s p q = hdrL s p q) := by show _ = _; unfold encH; rw [h]; rfl
    have hX : (u8s (hdrL s p q)).toArray.size = 64 := by rw [List.size_toArray, u8s_len, hdrL_len]
    have h1X := u8_all (hdrL s p q)
    go_enter Tryd.func13, Tryd.ntmps13
    go_wp2_with fail
    refine (validHeader_any s p q _).mono ?_
    rintro e w1 ⟨rfl, hb⟩
    rw [h]
    have hb1 : Below w.heap.size w w1 := ((Below.refl _ _).alloc (Nat.le_refl _) _).trans (hb.mono (by simp))
    have k0 := (hb.block w.heap.size (by simp)).trans (heap_alloc_new w _)
    have c0 : w1.cell? ⟨w.heap.size, 0, none⟩ = some (.int .i64 s) := by rw [cell_of_row w1 w.heap.size 0 _ _ _ k0]; rfl
    have c1 : w1.cell? ⟨w.heap.size, 1, none⟩ = some (.int .i64 p) := by rw [cell_of_row w1 w.heap.size 1 _ _ _ k0]; rfl
    have c2 : w1.cell? ⟨w.heap.size, 2, none⟩ = some (.int .i64 q) := by rw [cell_of_row w1 w.heap.size 2 _ _ _ k0]; rfl
    clear hb k0
    go_wp2_with fail
    refine (headerBlock_any s p q _ h).mono ?_
    rintro e w2 ⟨rfl, hb2⟩
    have hb3 : Below w.heap.size w w2 := hb1.trans (hb2.mono hb1.size)
    have s3 := hb3.size
    generalize hXe : (u8s (hdrL s p q)).toArray = X at *
    have HXe : Hid ((u8s (hdrL s p q)).toArray = X) := hXe
    clear hXe hb2 c0 c1 c2 hb1 h
    go_wp2_with (refine wpList_store_row rfl 52 _ _ rfl w2.heap.size X rfl rfl 52 _ (heap_alloc_new w2 _) (by rw [hX]; exact info52s) (by rw [hX]; rfl) h1X ?_)
    go_ret
    have hg := setRow_heap (w2.alloc _) w2.heap.size _ X 52 _ (heap_alloc_new w2 (.cells z64.toArray 52))
    rw [z64_lit] at hg
    refine ⟨some ⟨w2.heap.size, 0, none⟩, ?_, ?_, below_setRow (hb3.alloc s3 _) s3 X⟩
    · rw [HF.out, hdrL_len]; rfl
    · rw [HF.out]
      rw [← HXe.out] at hg ⊢
      exact row_of_block hg ⟨s3, by simp⟩
end Go.Proofs.YtkkammbfomiofaaDoor
