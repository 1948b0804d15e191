/-
  Srh, Sri, Srj.
-/
import Derived.Test.YtonpdbajoidigaaGreatDoorGx
import Derived.Test.YtonpdbajoidigaaGreatDoorGs
import Derived.Test.YtonpdbajoidigaaGreatDoorGq
/-
  FnSpace: a formatted disk is opened.
-/
namespace Go.Proofs.YtonpdbajoidigaaGreatDoor
open Go.RowKit
set_option linter.unusedSimpArgs false
set_option linter.unusedVariables false

/-- The bytes of a formatted disk. -/
def fmtX (S b : Int) (T N : Nat) : List Int := padL (List.replicate ((1 + T) * 64) 0 ++ hdrL 1 S b) (N * 64)
theorem fmtX_eq (S b : Int) (T N : Nat) : fmtX S b T N = List.replicate ((1 + T) * 64) 0 ++ (hdrL 1 S b ++ List.replicate (N * 64 - ((1 + T) * 64 + 64)) 0) := by
  rw [fmtX, padL, List.append_assoc, List.length_append, List.length_replicate, hdrL_len]
theorem fmtX_len {S b : Int} {T N : Nat} (h : 2 * (1 + T) + 8 ≤ N) : (fmtX S b T N).length = N * 64 := padL_len _ _ (by rw [List.length_append, List.length_replicate, hdrL_len]; omega)
theorem fmd_of {S : Nat} {b : Int} {T n N : Nat} (hv : vG (S : Int) b = true) (hn : (n : Int) = S * b) (hT : nblk (2 * ((S : Int) * b)) = (T : Int)) (hN : logN S b + S * b = (N : Int)) : Fmd (readL (fmtX S b T N) []) S b T n N := by
  obtain ⟨v1, v2, v3⟩ := fmt_bounds hv hT hN
  refine ⟨by omega, hv, hn, hT, v1, ?_, ?_, fun i hi => ?_, by omega⟩
  · show ((fmtX S b T N).drop (64 * (0 : Int).toNat)).take 64 = _
    rw [show 64 * (0 : Int).toNat = 0 from rfl, List.drop_zero, fmtX_eq, List.take_append_of_le_length (by rw [List.length_replicate]; omega), List.take_replicate]
    congr 1
    omega
  · show ((fmtX S b T N).drop (64 * (1 + (T : Int)).toNat)).take 64 = _
    rw [fmtX_eq, List.drop_left' (by rw [List.length_replicate]; omega), List.take_left' (hdrL_len _ _ _)]
  · show ((fmtX S b T N).drop (64 * (1 + (T : Int) + 1 + i).toNat)).take 64 = _
    rw [show 64 * (1 + (T : Int) + 1 + i).toNat = (1 + T) * 64 + (64 + 64 * i) by omega, ← List.drop_drop, fmtX_eq, List.drop_left' (by rw [List.length_replicate]), ← List.drop_drop, List.drop_left' (hdrL_len _ _ _), List.drop_replicate, List.take_replicate]
    congr 1
    omega
set_option maxRecDepth 100000 in
set_option maxHeartbeats 2000000 in
theorem fits_yes (a : Option Addr) (N c : Nat) (s b : Int) (w : World) (hv : vG s b = true) (hN : logN s b + s * b = (N : Int)) (hN1 : 1 ≤ N) (hN2 : N ≤ 1200) :
    Calls Tryz.prog 17 #[.agg #[.slice a (N * 64) c, .slice none 0 0], .agg #[.int .i64 s, .int .i64 b]] w fun e w' => e = .returned (.bool true) ∧ Below w.heap.size w w' := by
  have HV : Hid (∀ V, Calls Tryz.prog 35 #[.agg #[.slice a (N * 64) c, .slice none 0 0]] V fun e w' => e = .returned (.bool true) ∧ Below V.heap.size V w') := fun V => by
    have := validDisk_impl a none (N * 64) c 0 0 [] V ⟨rfl, .inl rfl, fun i hi => by omega⟩ (by omega) (by omega)
    rw [validB_true ⟨by omega, by omega, by omega, by simp [wVal], by simp [wVal]⟩] at this
    exact this
  have HY : Hid (∀ V, Calls Tryz.prog 13 #[.agg #[.int .i64 s, .int .i64 b]] V fun e w' => (∃ x0 x1 x2 x4, e = .returned (.agg #[.int .i64 x0, .int .i64 x1, .int .i64 x2, .int .i64 (N : Int), .int .i64 x4])) ∧ Below V.heap.size V w') := fun V => by
    have := layout_impl s b V
    unfold layA at this
    rw [hv, if_pos rfl, hN] at this
    exact this.mono fun e w' ⟨h1, h2⟩ => ⟨⟨_, _, _, _, h1⟩, h2⟩
  have hfd : ∀ (y0 y1 y2 y4 : Int) (v : World), (Instr.field 57 (.agg #[.int .i64 y0, .int .i64 y1, .int .i64 y2, .int .i64 (N : Int), .int .i64 y4]) 3).run Tryz.prog v = .ok (.int .i64 (N : Int)) v := fun _ _ _ _ _ => by kernel_rfl
  have hwr : IntKind.i64.wrap ((N : Int) * 64) = ((N * 64 : Nat) : Int) := by
    rw [show ((N * 64 : Nat) : Int) = (N : Int) * 64 by omega]
    simp [IntKind.wrap, IntKind.bits, IntKind.signed]
    omega
  obtain ⟨W1, hW1⟩ : ∃ W1, w.alloc (.cells #[.slice a (N * 64) c, .slice none 0 0] 33) = W1 := ⟨_, rfl⟩
  have hb1 : Below w.heap.size w W1 := by rw [← hW1]; exact (Below.refl _ _).alloc (Nat.le_refl _) _
  have k1 : W1.heap[w.heap.size]? = some (.cells #[.slice a (N * 64) c, .slice none 0 0] 33 (0, 0)) := by rw [← hW1]; exact heap_alloc_new w _
  obtain ⟨W2, hW2⟩ : ∃ W2, W1.alloc (.cells #[.int .i64 s, .int .i64 b] 25) = W2 := ⟨_, rfl⟩
  have hb2 : Below W1.heap.size W1 W2 := by rw [← hW2]; exact (Below.refl _ _).alloc (Nat.le_refl _) _
  have k2 : W2.heap[W1.heap.size]? = some (.cells #[.int .i64 s, .int .i64 b] 25 (0, 0)) := by rw [← hW2]; exact heap_alloc_new W1 _
  have l1 : w.heap.size < W1.heap.size := (Array.getElem?_eq_some_iff.1 k1).1
  have l2 : W1.heap.size < W2.heap.size := (Array.getElem?_eq_some_iff.1 k2).1
  have l12 : w.heap.size < W2.heap.size := by omega
  have k12 := (hb2.block _ l1).trans k1
  obtain ⟨⟨x0, x1⟩, _⟩ := cells2g k12
  obtain ⟨⟨x2, x3⟩, _⟩ := cells2g k2
  have HB2 : Hid (Below w.heap.size w W2) := hb1.trans (hb2.mono hb1.size)
  have HK := Lib.hid (And.intro k12 k2)
  clear hb1 hb2 k1 k2 k12 hv hN
  go_enter Tryz.func17, Tryz.ntmps17
  go_wp2_with fail
  go_region_law (first
    | (go_simp; go_at_call 35; refine (HV.out _).mono ?_; rintro e w3 ⟨rfl, hb3⟩; have HB3 : Hid (Below w.heap.size w w3) := HB2.out.drew.trans (hb3.mono HB2.out.size); obtain ⟨⟨z0, z1⟩, _⟩ := cells2g ((hb3.block _ l12).trans HK.out.1); obtain ⟨⟨z2, z3⟩, _⟩ := cells2g ((hb3.block _ l2).trans HK.out.2); clear hb3 x0 x1 x2 x3)
    | (go_simp; go_at_call 13; refine (HY.out _).mono ?_; rintro e w4 ⟨⟨y0, y1, y2, y4, rfl⟩, hb4⟩; have HB4 : Hid (Below w.heap.size w w4) := HB3.out.trans (hb4.mono HB3.out.size); have t0 := (hb4.cell (World.block_lt_of_cell? w3 _ z0)).trans z0; have t1 := (hb4.cell (World.block_lt_of_cell? w3 _ z1)).trans z1; clear hb4))
  all_goals
    go_wp2
    go_ret
    exact ⟨rfl, HB4.out⟩
end Go.Proofs.YtonpdbajoidigaaGreatDoor

/-
  FnSpace: a formatted disk is opened, whole.
-/
namespace Go.Proofs.YtonpdbajoidigaaGreatDoor
open Go.RowKit
set_option linter.unusedSimpArgs false
set_option linter.unusedVariables false

theorem DS.open0 {B : Nat} {w : World} {C nb M : Nat} {xs : List Int} {dv : Value} {wa : Option Addr} {wc : Nat} {D : DataW Unit} (h : CD B w C nb xs (wVal []) dv (.slice wa (wVal []).length wc) M D) : DS B w C nb M 256 (readL xs []) := by
  obtain ⟨da, dc, hd⟩ := owns_shape h.dur
  subst hd
  exact ⟨xs, [], da, dc, wa, wc, D, h, by simp, by simp, fun b _ _ => rfl⟩
set_option maxRecDepth 100000 in
set_option maxHeartbeats 4000000 in
theorem openImage_fmt (g off N ca : Nat) (S : Nat) (b : Int) (T n : Nat) (w : World) (hr : IRow .u8 w (some ⟨g, off, none⟩) (N * 64) (fmtX S b T N)) (hca : N * 64 ≤ ca) (hv : vG (S : Int) b = true) (hn : (n : Int) = S * b) (hT : nblk (2 * ((S : Int) * b)) = (T : Int)) (hN : logN S b + S * b = (N : Int)) :
    Calls Tryz.prog 8 #[.agg #[.slice (some ⟨g, off, none⟩) (N * 64) ca, .slice none 0 0], .agg #[.int .i64 (S : Int), .int .i64 b]] w fun e w' => ∃ C gt tc ka kc fa fc B M, e = .returned (.tuple #[.pointer (some ⟨C, 0, none⟩), .agg #[.int .i64 1, .slice (some ⟨gt, 0, none⟩) n tc, .slice ka S kc, .slice fa 0 fc], .int .i64 0]) ∧ w.heap.size ≤ B ∧ B ≤ w'.heap.size ∧ DS B w' C N M 256 (readL (fmtX S b T N) []) ∧ TAt B w' gt tc n (List.replicate n (0, false)) ∧ Below w.heap.size w w' := by
  obtain ⟨v1, v2, v3⟩ := fmt_bounds hv hT hN
  have HFM := Lib.hid (fmd_of hv hn hT hN)
  have HVG : Hid (∀ V, Calls Tryz.prog 12 #[.agg #[.int .i64 (S : Int), .int .i64 b]] V fun e w' => e = .returned (.bool true) ∧ Below V.heap.size V w') := fun V => by
    have := validGeometry_any (S : Int) b V
    rw [hv] at this
    exact this
  have HFT : Hid (∀ V, Calls Tryz.prog 17 #[.agg #[.slice (some ⟨g, off, none⟩) (N * 64) ca, .slice none 0 0], .agg #[.int .i64 (S : Int), .int .i64 b]] V fun e w' => e = .returned (.bool true) ∧ Below V.heap.size V w') := fun V => fits_yes _ N ca S b V hv hN (by omega) (by omega)
  have HOD : Hid (∀ V, Below w.heap.size w V → Calls Tryz.prog 18 #[.agg #[.slice (some ⟨g, off, none⟩) (N * 64) ca, .slice none 0 0]] V fun e w' => ∃ C M, e = .returned (.pointer (some ⟨C, 0, none⟩)) ∧ DS V.heap.size w' C N M 256 (readL (fmtX S b T N) []) ∧ Below V.heap.size V w') := fun V hV => (openDisk_any g off N ca none 0 0 _ [] V (hr.below hV) hca ⟨rfl, .inl rfl, fun i hi => by omega⟩ ⟨by omega, by omega, by omega, by simp [wVal], by simp [wVal]⟩).mono fun e w' ⟨C, dv, wa, wc, M, D, h1, h2, h3⟩ => ⟨C, M, h1, DS.open0 h2, h3⟩
  obtain ⟨W1, hW1⟩ : ∃ W1, w.alloc (.cells #[.slice (some ⟨g, off, none⟩) (N * 64) ca, .slice none 0 0] 33) = W1 := ⟨_, rfl⟩
  have hb1 : Below w.heap.size w W1 := by rw [← hW1]; exact (Below.refl _ _).alloc (Nat.le_refl _) _
  have k1 : W1.heap[w.heap.size]? = some (.cells #[.slice (some ⟨g, off, none⟩) (N * 64) ca, .slice none 0 0] 33 (0, 0)) := by rw [← hW1]; exact heap_alloc_new w _
  obtain ⟨W2, hW2⟩ : ∃ W2, W1.alloc (.cells #[.int .i64 (S : Int), .int .i64 b] 25) = W2 := ⟨_, rfl⟩
  have hb2 : Below W1.heap.size W1 W2 := by rw [← hW2]; exact (Below.refl _ _).alloc (Nat.le_refl _) _
  have k2 : W2.heap[W1.heap.size]? = some (.cells #[.int .i64 (S : Int), .int .i64 b] 25 (0, 0)) := by rw [← hW2]; exact heap_alloc_new W1 _
  obtain ⟨W3, hW3⟩ : ∃ W3, W2.alloc (.cells #[.int .i64 0, .slice none 0 0, .slice none 0 0, .slice none 0 0] 49) = W3 := ⟨_, rfl⟩
  have hb3 : Below W2.heap.size W2 W3 := by rw [← hW3]; exact (Below.refl _ _).alloc (Nat.le_refl _) _
  have k3 : W3.heap[W2.heap.size]? = some (.cells #[.int .i64 0, .slice none 0 0, .slice none 0 0, .slice none 0 0] 49 (0, 0)) := by rw [← hW3]; exact heap_alloc_new W2 _
  have l1 : w.heap.size < W1.heap.size := (Array.getElem?_eq_some_iff.1 k1).1
  have l2 : W1.heap.size < W2.heap.size := (Array.getElem?_eq_some_iff.1 k2).1
  have l3 : W2.heap.size < W3.heap.size := (Array.getElem?_eq_some_iff.1 k3).1
  have k13 : W3.heap[w.heap.size]? = some (.cells #[.slice (some ⟨g, off, none⟩) (N * 64) ca, .slice none 0 0] 33 (0, 0)) := (hb3.block _ (by omega)).trans ((hb2.block _ l1).trans k1)
  have k23 : W3.heap[W1.heap.size]? = some (.cells #[.int .i64 (S : Int), .int .i64 b] 25 (0, 0)) := (hb3.block _ l2).trans k2
  obtain ⟨⟨x2, x3⟩, _⟩ := cells2g k23
  have HB3 : Hid (Below w.heap.size w W3) := (hb1.trans (hb2.mono hb1.size)).trans (hb3.mono (by omega))
  have HK := Lib.hid (And.intro k13 (And.intro k23 k3))
  have l13 : w.heap.size < W3.heap.size := by omega
  have l23 : W1.heap.size < W3.heap.size := by omega
  clear hb1 hb2 hb3 k1 k2 k3 k13 k23 hr hv hn hT hN v1 v2 v3
  go_enter Tryz.func8, Tryz.ntmps8
  go_wp2_with fail
  refine (HVG.out W3).mono ?_
  rintro e w4 ⟨rfl, hb4⟩
  obtain ⟨⟨y0, y1⟩, _⟩ := cells2g ((hb4.block _ l13).trans HK.out.1)
  obtain ⟨⟨y2, y3⟩, _⟩ := cells2g ((hb4.block _ l23).trans HK.out.2.1)
  have HB4 := Lib.hid hb4
  clear hb4 x2 x3
  go_wp2_with fail
  refine (HFT.out w4).mono ?_
  rintro e w5 ⟨rfl, hb5⟩
  have hb5' := HB4.out.trans (hb5.mono HB4.out.size)
  clear y0 y1 y2 y3
  obtain ⟨⟨y0, y1⟩, _⟩ := cells2g ((hb5'.block _ l13).trans HK.out.1)
  have HB5 := Lib.hid hb5'
  clear hb5 hb5' HB4
  go_wp2_with fail
  refine (HOD.out w5 (HB3.out.trans (HB5.out.mono HB3.out.size))).mono ?_
  rintro e w6 ⟨C, M, rfl, hD6, hb6⟩
  have hb6' := HB5.out.trans (hb6.mono HB5.out.size)
  obtain ⟨⟨y2, y3⟩, _⟩ := cells2g ((hb6'.block _ l23).trans HK.out.2.1)
  have HRI := Lib.hid (readImage_fmt w5.heap.size C N M _ S b T n w6 hD6 HFM.out)
  have HB6 := Lib.hid (And.intro hb6' (And.intro hD6 hb6.size))
  clear hb6 hb6' hD6 y0 y1
  go_wp2_with fail
  refine HRI.out.mono ?_
  rintro e w7 ⟨⟨gt, tc, ka, kc, fa, fc, rfl, hT7⟩, hb7⟩
  have hb7' := HB6.out.1.trans (hb7.mono HB6.out.1.size)
  obtain ⟨W8, hW8⟩ : ∃ W8, w7.alloc (.cells #[.int .i64 0, .slice none 0 0, .slice none 0 0, .slice none 0 0] 49) = W8 := ⟨_, rfl⟩
  have k8 : W8.heap[w7.heap.size]? = some (.cells #[.int .i64 0, .slice none 0 0, .slice none 0 0, .slice none 0 0] 49 (0, 0)) := by rw [← hW8]; exact heap_alloc_new w7 _
  have hb8 : Below w7.heap.size w7 W8 := by rw [← hW8]; exact (Below.refl _ _).alloc (Nat.le_refl _) _
  obtain ⟨⟨p0, p1, p2, p3⟩, q0, q1, q2, q3⟩ := four_ofF k8
  obtain ⟨W9, hW9⟩ : ∃ W9, (((W8.setCell ⟨w7.heap.size, 0, none⟩ (.int .i64 1)).setCell ⟨w7.heap.size, 1, none⟩ (.slice (some ⟨gt, 0, none⟩) n tc)).setCell ⟨w7.heap.size, 2, none⟩ (.slice ka S kc)).setCell ⟨w7.heap.size, 3, none⟩ (.slice fa 0 fc) = W9 := ⟨_, rfl⟩
  have k9 : W9.heap[w7.heap.size]? = some (.cells #[.int .i64 1, .slice (some ⟨gt, 0, none⟩) n tc, .slice ka S kc, .slice fa 0 fc] 49 (0, 0)) := by rw [← hW9]; exact four_set k8 _ _ _ _
  have hb9 : Below w7.heap.size w7 W9 := by
    rw [← hW9]
    exact (((hb8.setCell (p := ⟨w7.heap.size, 0, none⟩) (Nat.le_refl _) _).setCell (p := ⟨w7.heap.size, 1, none⟩) (Nat.le_refl _) _).setCell (p := ⟨w7.heap.size, 2, none⟩) (Nat.le_refl _) _).setCell (p := ⟨w7.heap.size, 3, none⟩) (Nat.le_refl _) _
  obtain ⟨⟨r0, r1, r2, r3⟩, _⟩ := four_ofF k9
  have l8 : w7.heap.size < W8.heap.size := (Array.getElem?_eq_some_iff.1 k8).1
  have l9 : w7.heap.size < W9.heap.size := (Array.getElem?_eq_some_iff.1 k9).1
  have hb39 := hb7'.trans (hb9.mono hb7'.size)
  have k39 := (hb39.block _ l3).trans HK.out.2.2
  obtain ⟨⟨m0, m1, m2, m3⟩, n0, n1, n2, n3⟩ := four_ofF k39
  have l39 : W2.heap.size < W9.heap.size := (Array.getElem?_eq_some_iff.1 k39).1
  obtain ⟨V, hV⟩ : ∃ V, (((W9.setCell ⟨W2.heap.size, 0, none⟩ (.int .i64 1)).setCell ⟨W2.heap.size, 1, none⟩ (.slice (some ⟨gt, 0, none⟩) n tc)).setCell ⟨W2.heap.size, 2, none⟩ (.slice ka S kc)).setCell ⟨W2.heap.size, 3, none⟩ (.slice fa 0 fc) = V := ⟨_, rfl⟩
  have kV : V.heap[W2.heap.size]? = some (.cells #[.int .i64 1, .slice (some ⟨gt, 0, none⟩) n tc, .slice ka S kc, .slice fa 0 fc] 49 (0, 0)) := by rw [← hV]; exact four_set k39 _ _ _ _
  obtain ⟨⟨s0, s1, s2, s3⟩, _⟩ := four_ofF kV
  have HF : Hid (w5.heap.size ≤ V.drew.heap.size ∧ DS w5.heap.size V.drew C N M 256 (readL (fmtX S b T N) []) ∧ TAt w5.heap.size V.drew gt tc n (List.replicate n (0, false)) ∧ Below w.heap.size w V.drew) := by
    have hdr : Below V.heap.size V V.drew := (Below.refl _ _).drew
    have hkV : Kept (fun g => g = W2.heap.size) W9 V := by
      rw [← hV]
      exact (((Kept.setCell W9 ⟨W2.heap.size, 0, none⟩ _ (fun g => g = W2.heap.size) rfl).trans (Kept.setCell _ ⟨W2.heap.size, 1, none⟩ _ (fun g => g = W2.heap.size) rfl)).trans (Kept.setCell _ ⟨W2.heap.size, 2, none⟩ _ (fun g => g = W2.heap.size) rfl)).trans (Kept.setCell _ ⟨W2.heap.size, 3, none⟩ _ (fun g => g = W2.heap.size) rfl)
    have hb79 : Below w6.heap.size w6 W9 := hb7.trans (hb9.mono hb7.size)
    have hD9 : DS w5.heap.size W9 C N M 256 (readL (fmtX S b T N) []) := HB6.out.2.1.kd (S := fun _ => False) hb79
    have hT9 : TAt w5.heap.size W9 gt tc n (List.replicate n (0, false)) := owns_base (hT7.kd (S := fun _ => False) (Kd.of_below hb9) id) HB6.out.2.2
    have hTV : TAt w5.heap.size V gt tc n (List.replicate n (0, false)) := hT9.keptT k39 (by decide) hkV
    have hbw9 := HB3.out.trans (hb39.mono HB3.out.size)
    have hbwV := hbw9.trans (hkV.below hbw9.size (fun g hg => by omega))
    refine ⟨?_, (hD9.keptT k39 (by decide) (by decide) (by decide) hkV).kd (S := fun _ => False) hdr, hTV.kd (S := fun _ => False) (Kd.of_below hdr) id, hbwV.drew⟩
    have h1 := hkV.size
    have h2 := hb79.size
    have h3 := HB6.out.2.2
    show w5.heap.size ≤ V.heap.size
    omega
  have HS5 : Hid (w.heap.size ≤ w5.heap.size) := by
    have := HB3.out.size
    have := HB5.out.size
    show _ ≤ _
    omega
  clear kV hb7 hb7' hb8 hb9 hb39 k8 k9 k39 HB6 HRI HB5 hT7 y2 y3
  go_wp2_with fail
  go_region
  all_goals
    go_wp2
    refine bodyPost_ret (v := .tuple #[.pointer (some ⟨C, 0, none⟩), .agg #[.int .i64 1, .slice (some ⟨gt, 0, none⟩) n tc, .slice ka S kc, .slice fa 0 fc], .int .i64 0]) (by simp [results, Tryz.results8, go_sem, s0, s1, s2, s3]) rfl ?_
    exact ⟨C, gt, tc, ka, kc, fa, fc, w5.heap.size, M, rfl, HS5.out, HF.out⟩
end Go.Proofs.YtonpdbajoidigaaGreatDoor

/-
  FnSpace: a set of no files.
-/
namespace Go.Proofs.YtonpdbajoidigaaGreatDoor
open Go.RowKit
set_option linter.unusedSimpArgs false
set_option linter.unusedVariables false

set_option maxRecDepth 100000 in
set_option maxHeartbeats 2000000 in
theorem newFileSet_none (fa : Option Addr) (fc : Nat) (w : World) :
    Calls Tryz.prog 20 #[.slice fa 0 fc] w fun e w' => ∃ r, e = .returned (.agg #[.map (some r)]) ∧ MF w' r [] ∧ w.heap.size ≤ r ∧ Below w.heap.size w w' := by
  have hmm : ∀ W : World, (Instr.makeMap 58 none).run Tryz.prog W = .ok (.map (some W.heap.size)) (W.alloc (.map #[] 0)) := fun W => run_makeMap _ W
  obtain ⟨W1, hW1⟩ : ∃ W1, w.alloc (.cells #[.map none] 60) = W1 := ⟨_, rfl⟩
  have hb1 : Below w.heap.size w W1 := by rw [← hW1]; exact (Below.refl _ _).alloc (Nat.le_refl _) _
  have k1 : W1.heap[w.heap.size]? = some (.cells #[.map none] 60 (0, 0)) := by rw [← hW1]; exact heap_alloc_new w _
  obtain ⟨W2, hW2⟩ : ∃ W2, W1.alloc (.map #[] 0) = W2 := ⟨_, rfl⟩
  have hb2 : Below W1.heap.size W1 W2 := by rw [← hW2]; exact (Below.refl _ _).alloc (Nat.le_refl _) _
  have k2 : W2.heap[W1.heap.size]? = some (.map #[] 0) := by rw [← hW2]; exact heap_alloc_new W1 _
  obtain ⟨W3, hW3⟩ : ∃ W3, W2.alloc (.cells #[.map none] 60) = W3 := ⟨_, rfl⟩
  have hb3 : Below W2.heap.size W2 W3 := by rw [← hW3]; exact (Below.refl _ _).alloc (Nat.le_refl _) _
  have k3 : W3.heap[W2.heap.size]? = some (.cells #[.map none] 60 (0, 0)) := by rw [← hW3]; exact heap_alloc_new W2 _
  have y3 := cell_oneB k3
  have z3 : W3.frozen? ⟨W2.heap.size, 0, none⟩ = false := frozen_of_row _ _ _ _ _ k3
  obtain ⟨W4, hW4⟩ : ∃ W4, W3.setCell ⟨W2.heap.size, 0, none⟩ (.map (some W1.heap.size)) = W4 := ⟨_, rfl⟩
  have k4 : W4.heap[W2.heap.size]? = some (.cells #[.map (some W1.heap.size)] 60 (0, 0)) := by rw [← hW4]; exact one_set k3 _
  have hb4 : Below W2.heap.size W2 W4 := by rw [← hW4]; exact hb3.setCell (p := ⟨W2.heap.size, 0, none⟩) (Nat.le_refl _) _
  have y4 := cell_oneB k4
  have l1 : w.heap.size < W1.heap.size := (Array.getElem?_eq_some_iff.1 k1).1
  have l2 : W1.heap.size < W2.heap.size := (Array.getElem?_eq_some_iff.1 k2).1
  have k14 := (hb4.block _ (by omega)).trans ((hb2.block _ l1).trans k1)
  have y14 := cell_oneB k14
  have z14 : W4.frozen? ⟨w.heap.size, 0, none⟩ = false := frozen_of_row _ _ _ _ _ k14
  have l14 : w.heap.size < W4.heap.size := (Array.getElem?_eq_some_iff.1 k14).1
  have l24 : W2.heap.size < W4.heap.size := (Array.getElem?_eq_some_iff.1 k4).1
  obtain ⟨V, hV⟩ : ∃ V, W4.setCell ⟨w.heap.size, 0, none⟩ (.map (some W1.heap.size)) = V := ⟨_, rfl⟩
  have kV : V.heap[w.heap.size]? = some (.cells #[.map (some W1.heap.size)] 60 (0, 0)) := by rw [← hV]; exact one_set k14 _
  have yV := cell_oneB kV
  have HF : Hid (MF V W1.heap.size [] ∧ w.heap.size ≤ W1.heap.size ∧ Below w.heap.size w V) := by
    have hkV : Kept (fun g => g = w.heap.size) W4 V := by rw [← hV]; exact Kept.setCell W4 ⟨w.heap.size, 0, none⟩ _ (fun g => g = w.heap.size) rfl
    have k24 := (hb4.block _ l2).trans k2
    refine ⟨⟨#[], 0, (hkV.block _ (by omega) (by omega)).trans k24, rfl, ?_⟩, by omega, ?_⟩
    · exact ⟨by simp, by simp⟩
    · have hb04 : Below w.heap.size w W4 := (hb1.trans (hb2.mono hb1.size)).trans (hb4.mono (by omega))
      exact hb04.trans (hkV.below (by omega) (fun g hg => by omega))
  clear hb1 hb2 hb3 hb4 k1 k2 k3 k4 k14 kV
  go_enter Tryz.func20, Tryz.ntmps20
  go_wp2
  go_loopw [10] (fun i wr => i = .int .i64 0 ∧ wr = W4) (fun i _ => 0)
  case atStart => exact ⟨rfl, rfl⟩
  case round =>
    obtain ⟨rfl, rfl⟩ := hrel
    go_wp2
    refine bodyPost_ret (v := .agg #[.map (some W1.heap.size)]) (by simp [results, Tryz.results20, go_sem, yV]) rfl ?_
    exact ⟨_, rfl, HF.out⟩
end Go.Proofs.YtonpdbajoidigaaGreatDoor
