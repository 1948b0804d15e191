/-
  FnTornHeader: the law's walk.
-/
import Derived.Test.YtkkammbfomiofaaTrm
import Derived.Laws.IdiomStrings
import Derived.Deep.RegionWith
import Derived.Deep.CutRange
namespace Go.Proofs.Ytkkammbfomiofaa
open Go.RowKit
set_option linter.unusedSimpArgs false
set_option linter.unusedVariables false

theorem encH_yes {s p q : Int} (h : hdrB s p q = true) : encH s p q = hdrL s p q := by unfold encH; rw [if_pos h]
theorem encH_no {s p q : Int} (h : hdrB s p q = false) : encH s p q = [] := by unfold encH; rw [h]; rfl
theorem encH_le (s p q : Int) : (encH s p q).length ≤ 64 := by
  cases h : hdrB s p q
  · rw [encH_no h]; simp
  · rw [encH_yes h, hdrL_len]; exact Nat.le_refl _

set_option maxHeartbeats 1000000 in
theorem encodeHeader_cap (s p q : Int) (w : World) :
    Calls Try.prog 7 #[.agg #[.int .i64 s, .int .i64 p, .int .i64 q]] w fun e w' => ∃ a, e = .returned (.slice a (encH s p q).length (encH s p q).length) ∧ Row .u8 (fun g => w.heap.size ≤ g ∧ g < w'.heap.size) w' a (encH s p q).length (encH s p q) ∧ Below w.heap.size w w' := by
  cases h : hdrB s p q
  · have HF : Hid (encH s p q = []) := by show _ = _; unfold encH; rw [h]; rfl
    go_enter Try.func7, Try.ntmps7
    go_wp2_with fail
    refine (validHeader_any s p q _).mono ?_
    rintro e w1 ⟨rfl, hb⟩
    rw [h]
    have hb1 : Below w.heap.size w w1 := ((Below.refl _ _).alloc (Nat.le_refl _) _).trans (hb.mono (by simp))
    clear hb
    go_wp2
    go_ret
    refine ⟨some ⟨w1.heap.size, 0, none⟩, ?_, ?_, hb1.alloc hb1.size _⟩
    · rw [HF.out]; rfl
    · rw [HF.out]; exact ⟨rfl, .inl rfl⟩
  · have HF : Hid (encH s p q = hdrL s p q) := by show _ = _; unfold encH; rw [h]; rfl
    have hX : (u8s (hdrL s p q)).toArray.size = 64 := by rw [List.size_toArray, u8s_len, hdrL_len]
    have h1X := u8_all (hdrL s p q)
    go_enter Try.func7, Try.ntmps7
    go_wp2_with fail
    refine (validHeader_any s p q _).mono ?_
    rintro e w1 ⟨rfl, hb⟩
    rw [h]
    have hb1 : Below w.heap.size w w1 := ((Below.refl _ _).alloc (Nat.le_refl _) _).trans (hb.mono (by simp))
    have k0 := (hb.block w.heap.size (by simp)).trans (heap_alloc_new w _)
    have c0 : w1.cell? ⟨w.heap.size, 0, none⟩ = some (.int .i64 s) := by rw [cell_of_row w1 w.heap.size 0 _ _ _ k0]; rfl
    have c1 : w1.cell? ⟨w.heap.size, 1, none⟩ = some (.int .i64 p) := by rw [cell_of_row w1 w.heap.size 1 _ _ _ k0]; rfl
    have c2 : w1.cell? ⟨w.heap.size, 2, none⟩ = some (.int .i64 q) := by rw [cell_of_row w1 w.heap.size 2 _ _ _ k0]; rfl
    clear hb k0
    go_wp2_with fail
    refine (headerBlock_any s p q _ h).mono ?_
    rintro e w2 ⟨rfl, hb2⟩
    have hb3 : Below w.heap.size w w2 := hb1.trans (hb2.mono hb1.size)
    have s3 := hb3.size
    generalize hXe : (u8s (hdrL s p q)).toArray = X at *
    have HXe : Hid ((u8s (hdrL s p q)).toArray = X) := hXe
    clear hXe hb2 c0 c1 c2 hb1 h
    go_wp2_with (refine wpList_store_row rfl 60 _ _ rfl w2.heap.size X rfl rfl 60 _ (heap_alloc_new w2 _) (by rw [hX]; exact info60s) (by rw [hX]; rfl) h1X ?_)
    go_ret
    have hg := setRow_heap (w2.alloc _) w2.heap.size _ X 60 _ (heap_alloc_new w2 (.cells z64.toArray 60))
    rw [z64_lit] at hg
    refine ⟨some ⟨w2.heap.size, 0, none⟩, ?_, ?_, below_setRow (hb3.alloc s3 _) s3 X⟩
    · rw [HF.out, hdrL_len]; rfl
    · rw [HF.out]
      rw [← HXe.out] at hg ⊢
      exact row_of_block hg ⟨s3, by simp⟩

theorem four_set {w : World} {g : Nat} {t : TypeId} {x0 x1 x2 x3 : Value} (k : w.heap[g]? = some (.cells #[x0, x1, x2, x3] t (0, 0))) (v0 v1 v2 v3 : Value) : ((((w.setCell ⟨g, 0, none⟩ v0).setCell ⟨g, 1, none⟩ v1).setCell ⟨g, 2, none⟩ v2).setCell ⟨g, 3, none⟩ v3).heap[g]? = some (.cells #[v0, v1, v2, v3] t (0, 0)) := by
  simp [World.setCell, Array.getElem?_modify, k]
theorem four_below {B : Nat} {w w' : World} {g : Nat} (h : Below B w w') (hB : B ≤ g) (v0 v1 v2 v3 : Value) : Below B w ((((w'.setCell ⟨g, 0, none⟩ v0).setCell ⟨g, 1, none⟩ v1).setCell ⟨g, 2, none⟩ v2).setCell ⟨g, 3, none⟩ v3) :=
  (((h.setCell (p := ⟨g, 0, none⟩) hB v0).setCell (p := ⟨g, 1, none⟩) hB v1).setCell (p := ⟨g, 2, none⟩) hB v2).setCell (p := ⟨g, 3, none⟩) hB v3
theorem tornKey {s p q s' p' q' S P Q : Int} {gd : Bool} {k : Nat} {M : List Int} (h : hdrB s p q = true) (h' : hdrB s' p' q' = true) (hk : k ≤ 64) (hM : mixL (hdrL s p q) (hdrL s' p' q') k = M) (hV : decV M = #[.bool gd, .int .i64 S, .int .i64 P, .int .i64 Q]) :
    (gd = false ∧ 0 < k ∧ k < 64) ∨ (gd = true ∧ S = s ∧ P = p ∧ Q = q ∧ k < 64) ∨ (gd = true ∧ S = s' ∧ P = p' ∧ Q = q' ∧ 0 < k) ∨ (gd = true ∧ s = s' ∧ 0 < k ∧ k < 64) := by
  subst hM
  by_cases k0 : k = 0
  · subst k0
    have e : mixL (hdrL s p q) (hdrL s' p' q') 0 = hdrL s p q := by simp [mixL]
    rw [e, decV_hdr h] at hV
    simp at hV
    exact .inr (.inl ⟨hV.1, hV.2.1.symm, hV.2.2.1.symm, hV.2.2.2.symm, by omega⟩)
  by_cases k64 : k = 64
  · subst k64
    have e : mixL (hdrL s p q) (hdrL s' p' q') 64 = hdrL s' p' q' := by
      unfold mixL
      rw [List.take_of_length_le (by rw [hdrL_len]; omega), List.drop_eq_nil_of_le (by rw [hdrL_len]; omega), List.append_nil]
    rw [e, decV_hdr h'] at hV
    simp at hV
    exact .inr (.inr (.inl ⟨hV.1, hV.2.1.symm, hV.2.2.1.symm, hV.2.2.2.symm, by omega⟩))
  cases hd : decB (mixL (hdrL s p q) (hdrL s' p' q') k)
  · rw [decV_no hd] at hV
    simp at hV
    exact .inl ⟨hV.1, by omega, by omega⟩
  · have hV' := hV
    rw [decV_yes hd] at hV'
    simp at hV'
    by_cases hs : s = s'
    · exact .inr (.inr (.inr ⟨hV'.1, hs, by omega, by omega⟩))
    · rcases torn h h' hs k hk hd with ⟨t1, t2, t3⟩ | ⟨t1, t2, t3⟩
      · exact .inr (.inl ⟨hV'.1, hV'.2.1.symm.trans t1, hV'.2.2.1.symm.trans t2, hV'.2.2.2.symm.trans t3, by omega⟩)
      · exact .inr (.inr (.inl ⟨hV'.1, hV'.2.1.symm.trans t1, hV'.2.2.1.symm.trans t2, hV'.2.2.2.symm.trans t3, by omega⟩))
theorem irow_takeT {k : IntKind} {w : World} {a : Option Addr} {n : Nat} {xs : List Int} (j : Nat) (hj : j ≤ n) (h : IRow k w a n xs) : IRow k w a j (xs.take j) := by
  obtain ⟨h1, h2⟩ := h
  refine ⟨by simp [h1]; omega, ?_⟩
  by_cases h0 : j = 0
  · exact .inl h0
  rcases h2 with h2 | ⟨g, off, e, hc⟩
  · omega
  · refine .inr ⟨g, off, e, fun i hi => ?_⟩
    rw [hc i (by omega)]; simp [List.getElem?_take, hi]
theorem irow_dropT {k : IntKind} {w : World} {g off n : Nat} {xs : List Int} (j : Nat) (hj : j ≤ n) (h : IRow k w (some ⟨g, off, none⟩) n xs) (b : Option Addr) (hb : j < n → b = some ⟨g, off + j, none⟩) : IRow k w b (n - j) (xs.drop j) := by
  obtain ⟨h1, h2⟩ := h
  refine ⟨by simp [h1], ?_⟩
  by_cases h0 : n - j = 0
  · exact .inl h0
  rcases h2 with h2 | ⟨g', off', e, hc⟩
  · omega
  · injection e with e
    injection e with e1 e2 e3
    subst e1; subst e2
    refine .inr ⟨g, off + j, hb (by omega), fun i hi => ?_⟩
    rw [Nat.add_assoc, hc (j + i) (by omega), List.getElem?_drop]
theorem strOf_app (xs ys : List Int) : strOf xs ++ strOf ys = strOf (xs ++ ys) := by
  unfold strOf
  rw [ByteArray.mk_append_mk]
  simp
theorem strOf_size (xs : List Int) : (strOf xs).size = xs.length := by simp [strOf, ByteArray.size]
theorem conv_new (W : World) (zs : List Int) (hz : Byt zs) (hl : zs.length = 64) : ∃ c W', (convert 9 22 (.string (strOf zs))).run Try.prog W = .ok (.slice (some ⟨W.heap.size, 0, none⟩) 64 c) W' ∧ IRow .u8 W' (some ⟨W.heap.size, 0, none⟩) 64 zs ∧ Below W.heap.size W W' ∧ 64 ≤ c ∧ c ≤ 9223372036854775807 ∧ W'.heap.size = W.heap.size + 1 := by
  have hr := run_bytes_of_string (P := Try.prog) W 9 22 5 (strOf zs) Try.underlying9 Try.underlying22 Try.underlying5
  rw [strOf_size, hl] at hr
  have g1 := grownCap_ge W 64 0 5
  have g2 := grownCap_le_maxLen W 64 0 5 (by unfold maxLen; omega)
  unfold maxLen at g2
  refine ⟨_, _, hr, ⟨hl, .inr ⟨W.heap.size, 0, rfl, fun i hi => ?_⟩⟩, ((Below.refl _ _).drew).alloc (Nat.le_refl _) _, g1, by omega, by simp⟩
  have hd : i < (strOf zs).data.size := by have := strOf_size zs; simp only [ByteArray.size] at this; omega
  have hh : (W.drew.alloc (.cells (bytesRow (strOf zs) (grownCap W 64 0 5)) 5 ((bytesRow (strOf zs) (grownCap W 64 0 5)).size, (bytesRow (strOf zs) (grownCap W 64 0 5)).size + 1))).heap[W.heap.size]? = some (.cells (bytesRow (strOf zs) (grownCap W 64 0 5)) 5 ((bytesRow (strOf zs) (grownCap W 64 0 5)).size, (bytesRow (strOf zs) (grownCap W 64 0 5)).size + 1)) := heap_alloc_new W.drew _
  rw [Nat.zero_add, cell_of_row _ W.heap.size i _ _ _ hh, bytesRow_at _ _ _ hd]
  have hx := hz.at i (by omega)
  rw [List.getElem?_eq_getElem (by omega)] at hx ⊢
  simp only [Option.getD_some] at hx ⊢
  have : (strOf zs).data[i] = toU zs[i] := by simp [strOf]
  rw [this, toU_nat hx]

set_option maxHeartbeats 8000000 in
set_option maxRecDepth 100000 in
theorem law_tornHeader (a : Option Addr) (n ca : Nat) (xs : List Int) (a' : Option Addr) (n' ca' : Nat) (ys : List Int) (w : World) (ha : IRow .u8 w a n xs) (hn : (n : Int) ≤ 9223372036854775807) (hx : Byt xs) (hb : IRow .u8 w a' n' ys) (hn' : (n' : Int) ≤ 9223372036854775807) (hy : Byt ys) :
    Calls Try.prog 3 #[.slice a n ca, .slice a' n' ca'] w fun e w' => e = .returned (.bool true) ∧ Below w.heap.size w w' := by
  by_cases hbig : 1048576 < n
  · go_enter Try.func3, Try.ntmps3
    go_wp2
    go_ret
    exact ⟨rfl, Below.refl _ _⟩
  by_cases hbig' : 1048576 < n'
  · go_enter Try.func3, Try.ntmps3
    go_wp2
    go_ret
    exact ⟨rfl, Below.refl _ _⟩
  have HA : Hid (IRow .u8 w a n xs) := ha
  have HB : Hid (IRow .u8 w a' n' ys) := hb
  have HX : Hid (∀ i, i < n → 0 ≤ xs[i]?.getD 0 ∧ xs[i]?.getD 0 ≤ 255) := fun i hi => hx.at i (by rw [ha.1]; exact hi)
  have HY : Hid (∀ i, i < n' → 0 ≤ ys[i]?.getD 0 ∧ ys[i]?.getD 0 ≤ 255) := fun i hi => hy.at i (by rw [hb.1]; exact hi)
  clear ha hb hx hy
  go_enter Try.func3, Try.ntmps3
  go_wp2_with fail
  refine (drawHeader_any _ _ _ xs _ HA.out HX.out (by omega)).mono ?_
  rintro e w1 ⟨s, p, q, rfl, hb1⟩
  have HB1 : Hid (Below w.heap.size w w1) := hb1
  have hA1 : ∀ o, IRow .u8 (w1.alloc o) a' n' ys := fun o => HB.out.below (hb1.alloc hb1.size o)
  clear hb1
  go_wp2_with fail
  refine (drawHeader_any _ _ _ ys _ (hA1 _) HY.out (by omega)).mono ?_
  rintro e w2 ⟨s', p', q', rfl, hb2⟩
  have hb2' : Below w1.heap.size w1 w2 := ((Below.refl _ _).alloc (Nat.le_refl _) _).trans (hb2.mono (by simp))
  have k2 := (hb2.block w1.heap.size (by simp)).trans (heap_alloc_new w1 _)
  have HB2 : Hid (Below w.heap.size w w2) := HB1.out.trans (hb2'.mono HB1.out.size)
  have z2 := (Array.getElem?_eq_some_iff.1 k2).1
  obtain ⟨⟨c0, c1, c2⟩, _, _, _⟩ := cells3f k2
  clear hb2 hb2' HB1 hA1 HX HY HA HB
  have z2' : w1.heap.size < w2.heap.size := z2
  go_wp2_with fail
  refine (encodeHeader_cap s p q _).mono ?_
  rintro e w3 ⟨aA, rfl, rA, hb3⟩
  have hb3' : Below w2.heap.size w2 w3 := ((Below.refl _ _).alloc (Nat.le_refl _) _).trans (hb3.mono (by simp))
  have k3 := (hb3'.block w1.heap.size z2).trans k2
  have j3 := (hb3.block w2.heap.size (by simp)).trans (heap_alloc_new w2 _)
  have HB3 : Hid (Below w.heap.size w w3) := HB2.out.trans (hb3'.mono HB2.out.size)
  have y3 := (Array.getElem?_eq_some_iff.1 j3).1
  obtain ⟨⟨d0, d1, d2⟩, _, _, _⟩ := cells3f j3
  have rA' := rA.mono (G' := fun g => True) (fun _ _ => trivial)
  clear hb3 hb3' HB2 k2 c0 c1 c2 rA
  go_wp2_with fail
  refine (encodeHeader_cap s' p' q' _).mono ?_
  rintro e w4 ⟨aB, rfl, rB, hb4⟩
  have k4 := (hb4.block w1.heap.size (by omega)).trans k3
  have j4 := (hb4.block w2.heap.size y3).trans j3
  have HB4 : Hid (Below w.heap.size w w4) := HB3.out.trans (hb4.mono HB3.out.size)
  have rA4 := rA'.below hb4
  have rB4 := rB.mono (G' := fun g => True) (fun _ _ => trivial)
  have y4 := (Array.getElem?_eq_some_iff.1 j4).1
  obtain ⟨⟨c0, c1, c2⟩, _, _, _⟩ := cells3f k4
  clear hb4 HB3 k3 j3 d0 d1 d2 rA' rB
  go_wp2_with fail
  refine (encodeHeader_spec s p q _).mono ?_
  rintro e w5 ⟨u5, rfl, own5, hb5⟩
  obtain ⟨a5, c5, rfl⟩ := owns_shape own5
  have k5 := (hb5.block w1.heap.size (by omega)).trans k4
  have j5 := (hb5.block w2.heap.size y4).trans j4
  have HB5 : Hid (Below w.heap.size w w5) := HB4.out.trans (hb5.mono HB4.out.size)
  have rA5 := rA4.below hb5
  have rB5 := rB4.below hb5
  have y5 := (Array.getElem?_eq_some_iff.1 j5).1
  obtain ⟨⟨d0, d1, d2⟩, _, _, _⟩ := cells3f j5
  have hne1 : ((((encH s p q).length : Nat) : Int) != (((encH s p q).length : Nat) : Int)) = false := by simp
  clear hb5 HB4 k4 j4 c0 c1 c2 rA4 rB4 own5
  have HES := encodeHeader_spec s' p' q' w5
  have lA := encH_le s p q
  have lB := encH_le s' p' q'
  go_wp2_with fail
  refine HES.mono ?_
  rintro e w6 ⟨u6, rfl, own6, hb6⟩
  obtain ⟨a6, c6, rfl⟩ := owns_shape own6
  have k6 := (hb6.block w1.heap.size (by omega)).trans k5
  have j6 := (hb6.block w2.heap.size y5).trans j5
  have HB6 : Hid (Below w.heap.size w w6) := HB5.out.trans (hb6.mono HB5.out.size)
  have rA6 := rA5.below hb6
  have rB6 := rB5.below hb6
  have y6 := (Array.getElem?_eq_some_iff.1 j6).1
  have hne2 : ((((encH s' p' q').length : Nat) : Int) != (((encH s' p' q').length : Nat) : Int)) = false := by simp
  clear hb6 HB5 k5 j5 d0 d1 d2 rA5 rB5 own6 HES
  have hfd : ∀ v : World, (Instr.field 28 (.agg #[.bool false, .int .i64 0, .int .i64 0, .int .i64 0]) 0).run Try.prog v = .ok (.bool false) v := fun _ => by kernel_rfl
  cases hA : hdrB s p q
  · have e0 : encH s p q = [] := encH_no hA
    rw [e0] at rA6 hne1 lA ⊢
    generalize (encH s' p' q').length = LB at *
    have hbe : ∀ o, Below w.heap.size w (w6.alloc o) := fun o => HB6.out.alloc HB6.out.size o
    clear k6 j6 rA6 rB6 y6
    go_wp2_with fail
    refine (decodeHeader_impl _ 0 _ [] _ ⟨rfl, .inl rfl⟩ (fun x hx => by cases hx) (Nat.le_refl _) (by omega)).mono ?_
    rintro e w7 ⟨rfl, hb7⟩
    rw [show decV [] = #[.bool false, .int .i64 0, .int .i64 0, .int .i64 0] from decV_no (decB_len (by simp))]
    have HB7 : Hid (Below w.heap.size w w7) := (hbe _).trans (hb7.mono (by have := HB6.out.size; simp; omega))
    clear hb7 hbe
    go_wp2
    go_ret
    exact ⟨rfl, HB7.out⟩
  cases hB : hdrB s' p' q'
  · have e0 : encH s' p' q' = [] := encH_no hB
    have e1 : (encH s p q).length = 64 := by rw [encH_yes hA, hdrL_len]
    rw [e0] at rB6 hne2 lB ⊢
    rw [e1] at hne1 rA6 ⊢
    clear e1
    have hbe : ∀ o, Below w.heap.size w (w6.alloc o) := fun o => HB6.out.alloc HB6.out.size o
    clear k6 j6 rA6 rB6 y6
    go_wp2_with fail
    refine (decodeHeader_impl _ 0 _ [] _ ⟨rfl, .inl rfl⟩ (fun x hx => by cases hx) (Nat.le_refl _) (by omega)).mono ?_
    rintro e w7 ⟨rfl, hb7⟩
    rw [show decV [] = #[.bool false, .int .i64 0, .int .i64 0, .int .i64 0] from decV_no (decB_len (by simp))]
    have HB7 : Hid (Below w.heap.size w w7) := (hbe _).trans (hb7.mono (by have := HB6.out.size; simp; omega))
    clear hb7 hbe
    go_wp2
    go_ret
    exact ⟨rfl, HB7.out⟩
  have eA : encH s p q = hdrL s p q := encH_yes hA
  have eB : encH s' p' q' = hdrL s' p' q' := encH_yes hB
  rw [eA, hdrL_len] at rA6 hne1 ⊢
  rw [eB, hdrL_len] at rB6 hne2 ⊢
  have HRA : Hid (IRow .u8 w6 aA 64 (hdrL s p q)) := rA6.read
  have HRB : Hid (IRow .u8 w6 aB 64 (hdrL s' p' q')) := rB6.read
  have HHA : Hid (hdrB s p q = true) := hA
  have HHB : Hid (hdrB s' p' q' = true) := hB
  obtain ⟨gA, oA, rfl, _⟩ := HRA.out.2.resolve_left (by omega)
  obtain ⟨gB, oB, rfl, _⟩ := HRB.out.2.resolve_left (by omega)
  clear rA6 rB6 hA hB eA eB lA lB hfd
  have HLA := hdrL_len s p q
  have HLB := hdrL_len s' p' q'
  have HBA := hdrL_byt s p q
  have HBB := hdrL_byt s' p' q'
  have HLA' : Hid ((hdrL s p q).length = 64) := HLA
  have HLB' : Hid ((hdrL s' p' q').length = 64) := HLB
  have HBA' : Hid (Byt (hdrL s p q)) := HBA
  have HBB' : Hid (Byt (hdrL s' p' q')) := HBB
  clear HLA HLB HBA HBB
  have HK6 : Hid (w6.heap[w1.heap.size]? = some (.cells #[.int .i64 s, .int .i64 p, .int .i64 q] 24 (0, 0))) := k6
  have HJ6 : Hid (w6.heap[w2.heap.size]? = some (.cells #[.int .i64 s', .int .i64 p', .int .i64 q'] 24 (0, 0))) := j6
  have x6 : w1.heap.size < w6.heap.size := (Array.getElem?_eq_some_iff.1 k6).1
  clear k6 j6
  go_wp2
  go_loopw [9] (fun i wr => ∃ k : Nat, k ≤ 65 ∧ i = .int .i64 k ∧ Below w6.heap.size w6 wr) (fun i _ => 65 - (intOf i).toNat)
  case atStart => exact ⟨0, by omega, rfl, Below.refl _ _⟩
  case round =>
    obtain ⟨k, hk, rfl, hbr⟩ := hrel
    have HBr : Hid (Below w.heap.size w wr) := HB6.out.trans (hbr.mono HB6.out.size)
    by_cases hle : k ≤ 64
    · have hle' : (k : Int) ≤ 64 := by omega
      have hk0 : (0 : Int) ≤ (k : Int) := by omega
      obtain ⟨M, hM⟩ : ∃ M, mixL (hdrL s p q) (hdrL s' p' q') k = M := ⟨_, rfl⟩
      have HM : Hid (mixL (hdrL s p q) (hdrL s' p' q') k = M) := hM
      have lM : M.length = 64 := by rw [← hM]; exact mix_len HLA'.out HLB'.out hle
      have bM : Byt M := by rw [← hM]; exact mix_byt HBA'.out HBB'.out
      obtain ⟨AD, hAD1, hAD2⟩ : ∃ AD : Addr, (if 64 = k then some (⟨gA, oA, none⟩ : Addr) else some ⟨gA, oA + k, none⟩) = some AD ∧ (k < 64 → AD = ⟨gA, oA + k, none⟩) := by
        by_cases e : 64 = k
        · exact ⟨_, by rw [if_pos e], fun h => by omega⟩
        · exact ⟨_, by rw [if_neg e], fun _ => rfl⟩
      have rowB := irow_takeT k hle HRB.out
      have rowA := irow_dropT k hle HRA.out (some AD) (fun h => by rw [hAD2 h])
      have bB : Byt ((hdrL s' p' q').take k) := fun x hx => HBB'.out x (List.mem_of_mem_take hx)
      have bA : Byt ((hdrL s p q).drop k) := fun x hx => HBA'.out x (List.mem_of_mem_drop hx)
      have cB : ∀ W, Below w6.heap.size w6 W → (convert 22 9 (.slice (some ⟨gB, oB, none⟩) k 64)).run Try.prog W = .ok (.string (strOf ((hdrL s' p' q').take k))) W := fun W h => conv_str 64 (rowB.below h) bB
      have cA : ∀ W, Below w6.heap.size w6 W → (convert 22 9 (.slice (some AD) (64 - k) (64 - k))).run Try.prog W = .ok (.string (strOf ((hdrL s p q).drop k))) W := fun W h => conv_str (64 - k) (rowA.below h) bA
      have happ : strOf ((hdrL s' p' q').take k) ++ strOf ((hdrL s p q).drop k) = strOf M := by rw [strOf_app, ← hM]; rfl
      have hsum : ¬ 9223372036854775807 < (strOf ((hdrL s' p' q').take k)).size + (strOf ((hdrL s p q).drop k)).size := by rw [strOf_size, strOf_size]; have := HLA'.out; have := HLB'.out; simp; omega
      generalize strOf ((hdrL s' p' q').take k) = SB at *
      generalize strOf ((hdrL s p q).drop k) = SA at *
      have HcB0 : Hid (_ = _) := cB wr.drew hbr.drew
      have HcB1 : Hid (_ = _) := cB ((wr.alloc (.cells #[.bool false, .int .i64 0, .int .i64 0, .int .i64 0] 28)).drew) (hbr.alloc hbr.size _).drew
      have HcA0 : Hid (_ = _) := cA wr.drew hbr.drew
      have HcA1 : Hid (_ = _) := cA ((wr.alloc (.cells #[.bool false, .int .i64 0, .int .i64 0, .int .i64 0] 28)).drew) (hbr.alloc hbr.size _).drew
      obtain ⟨d0, V0, n0, r0, b0, l0, m0, s0⟩ := conv_new wr.drew M bM lM
      obtain ⟨d1, V1, n1, r1, b1, l1, m1, s1⟩ := conv_new ((wr.alloc (.cells #[.bool false, .int .i64 0, .int .i64 0, .int .i64 0] 28)).drew) M bM lM
      have s0' : wr.heap.size < V0.heap.size := by rw [s0]; simp
      have s1' : wr.heap.size + 1 < V1.heap.size := by rw [s1]; simp
      have b0' : Below wr.heap.size wr V0 := ((Below.refl _ _).drew).trans b0
      have b1' : Below wr.heap.size wr V1 := (((Below.refl _ _).alloc (Nat.le_refl _) _).drew).trans (b1.mono (by simp))
      have kR1 : V1.heap[wr.heap.size]? = some (.cells #[.bool false, .int .i64 0, .int .i64 0, .int .i64 0] 28 (0, 0)) := (b1.block wr.heap.size (by simp)).trans (heap_alloc_new wr _)
      have Hn0 : Hid (_ = _) := n0
      have Hn1 : Hid (_ = _) := n1
      have q0 : IRow .u8 V0 (some ⟨wr.heap.size, 0, none⟩) 64 M := r0
      have q1 : IRow .u8 V1 (some ⟨wr.heap.size + 1, 0, none⟩) 64 M := by simpa using r1
      have HQ0 : Hid (IRow .u8 V0 (some ⟨wr.heap.size, 0, none⟩) 64 M) := q0
      have HQ1 : Hid (IRow .u8 V1 (some ⟨wr.heap.size + 1, 0, none⟩) 64 M) := q1
      clear s0 s1 b0 b1 r0 r1 q0 q1 n0 n1
      obtain ⟨gd, S, P, Q, hV⟩ := decV_shape M
      have HV : Hid (decV M = #[.bool gd, .int .i64 S, .int .i64 P, .int .i64 Q]) := hV
      clear hM rowB rowA bB bA cB cA hV lM
      have HbM : Hid (Byt M) := bM
      clear bM
      go_wp2_with fail
      go_cut [10] from 57 to 67 (fun r wx => ∃ R : Nat, r = .pointer (some ⟨R, 0, none⟩) ∧ Below wr.heap.size wr wx ∧ wx.heap[R]? = some (.cells #[.bool gd, .int .i64 S, .int .i64 P, .int .i64 Q] 28 (0, 0)))
      case first =>
        refine wp_region_any (by kernel_rfl) ?_
        change wpAny _ _ _ _ _ _ _ (World.drew _)
        refine wpAny_take (i := 0) (v := .slice (some ⟨gB, oB, none⟩) 64 64) rfl (by kernel_rfl) (by kernel_rfl) (by kernel_rfl) (fun _ _ _ h => h) (Or.inl ⟨rfl, fun W => by go_simp⟩) ?_
        refine wpAny_take (i := 1) (v := .int .i64 (k : Int)) rfl (by kernel_rfl) (by kernel_rfl) (by kernel_rfl) (fun _ _ _ h => h) (Or.inl ⟨rfl, fun W => by go_simp⟩) ?_
        refine wpAny_take (i := 2) (v := .slice (some ⟨gB, oB, none⟩) k 64) rfl (by kernel_rfl) (by kernel_rfl) (by kernel_rfl) (fun _ _ _ h => h) (Or.inl ⟨rfl, fun W => by go_simp⟩) ?_
        refine wpAny_take (i := 4) (v := .slice (some ⟨gA, oA, none⟩) 64 64) rfl (by kernel_rfl) (by kernel_rfl) (by kernel_rfl) (fun _ _ _ h => h) (Or.inl ⟨rfl, fun W => by go_simp⟩) ?_
        refine wpAny_take (i := 5) (v := .int .i64 (k : Int)) rfl (by kernel_rfl) (by kernel_rfl) (by kernel_rfl) (fun _ _ _ h => h) (Or.inl ⟨rfl, fun W => by go_simp⟩) ?_
        refine wpAny_take (i := 6) (v := .slice (some AD) (64 - k) (64 - k)) rfl (by kernel_rfl) (by kernel_rfl) (by kernel_rfl) (fun _ _ _ h => h) (Or.inl ⟨rfl, fun W => by go_simp⟩) ?_
        refine wpAny_ready (rs := [3, 7, 11]) (by kernel_rfl) (by simp) ?_
        refine AllReady.cons rfl (fun K hK => ?_) (AllReady.cons rfl (fun K hK => ?_) (AllReady.cons rfl (fun K hK => ?_) AllReady.nil))
        · have cc := HcB0.out
          go_simp
          refine hK _ _ ?_
          clear hK K
          clear cc
          refine wpAny_ready (rs := [7, 11]) (by kernel_rfl) (by simp) ?_
          refine AllReady.cons rfl (fun K hK => ?_) (AllReady.cons rfl (fun K hK => ?_) AllReady.nil)
          · have cc := HcA0.out
            go_simp
            refine hK _ _ ?_
            clear hK K
            clear cc
            refine wpAny_ready (rs := [8, 11]) (by kernel_rfl) (by simp) ?_
            refine AllReady.cons rfl (fun K hK => ?_) (AllReady.cons rfl (fun K hK => ?_) AllReady.nil)
            · go_simp
              refine hK _ _ ?_
              clear hK K
              refine wpAny_ready (rs := [9, 11]) (by kernel_rfl) (by simp) ?_
              refine AllReady.cons rfl (fun K hK => ?_) (AllReady.cons rfl (fun K hK => ?_) AllReady.nil)
              · have cc := Hn0.out
                go_simp
                refine hK _ _ ?_
                clear hK K
                clear cc
                refine wpAny_ready (rs := [10, 11]) (by kernel_rfl) (by simp) ?_
                refine AllReady.cons rfl (fun K hK => ?_) (AllReady.cons rfl (fun K hK => ?_) AllReady.nil)
                · go_simp
                  refine (decodeHeader_impl (some ⟨wr.heap.size, 0, none⟩) 64 d0 M V0 HQ0.out HbM.out l0 m0).mono ?_
                  rintro e w7 ⟨rfl, hb7⟩
                  rw [HV.out]
                  have hbw : Below wr.heap.size wr w7 := b0'.trans (hb7.mono (by omega))
                  go_simp
                  refine hK _ _ ?_
                  clear hK K
                  refine wpAny_ready (rs := [11]) (by kernel_rfl) (by simp) ?_
                  refine AllReady.cons rfl (fun K hK => ?_) AllReady.nil
                  go_simp
                  refine hK _ _ ?_
                  clear hK K
                  refine wpAny_ready (rs := [12]) (by kernel_rfl) (by simp) ?_
                  refine AllReady.cons rfl (fun K hK => ?_) AllReady.nil
                  go_simp
                  refine hK _ _ ?_
                  clear hK K
                  refine wpAny_done (by kernel_rfl) ?_ _
                  go_wp2_with fail
                  go_meet
                  exact ⟨_, rfl, hbw.alloc hbw.size _, heap_alloc_new w7 _⟩
                · go_simp
                  refine hK _ _ ?_
                  clear hK K
                  refine wpAny_ready (rs := [10]) (by kernel_rfl) (by simp) ?_
                  refine AllReady.cons rfl (fun K hK => ?_) AllReady.nil
                  go_simp
                  refine (decodeHeader_impl (some ⟨wr.heap.size, 0, none⟩) 64 d0 M (V0.alloc (.cells #[.bool false, .int .i64 0, .int .i64 0, .int .i64 0] 28)) (HQ0.out.below ((Below.refl _ _).alloc (Nat.le_refl _) _)) HbM.out l0 m0).mono ?_
                  rintro e w7 ⟨rfl, hb7⟩
                  rw [HV.out]
                  have kR : w7.heap[V0.heap.size]? = some (.cells #[.bool false, .int .i64 0, .int .i64 0, .int .i64 0] 28 (0, 0)) := (hb7.block V0.heap.size (by simp)).trans (heap_alloc_new V0 _)
                  have hbw : Below wr.heap.size wr w7 := (b0'.alloc (by omega) _).trans (hb7.mono (by simp; omega))
                  obtain ⟨⟨t0, t1, t2, t3⟩, i0, i1, i2, i3⟩ := cells4s kR
                  go_simp
                  refine hK _ _ ?_
                  clear hK K
                  refine wpAny_ready (rs := [12]) (by kernel_rfl) (by simp) ?_
                  refine AllReady.cons rfl (fun K hK => ?_) AllReady.nil
                  go_simp
                  refine hK _ _ ?_
                  clear hK K
                  refine wpAny_done (by kernel_rfl) ?_ _
                  go_wp2_with fail
                  go_meet
                  exact ⟨V0.heap.size, rfl, four_below hbw (by omega) _ _ _ _, four_set kR _ _ _ _⟩
              · go_simp
                refine hK _ _ ?_
                clear hK K
                refine wpAny_ready (rs := [9]) (by kernel_rfl) (by simp) ?_
                refine AllReady.cons rfl (fun K hK => ?_) AllReady.nil
                have cc := Hn1.out
                go_simp
                refine hK _ _ ?_
                clear hK K
                clear cc
                refine wpAny_ready (rs := [10]) (by kernel_rfl) (by simp) ?_
                refine AllReady.cons rfl (fun K hK => ?_) AllReady.nil
                go_simp
                refine (decodeHeader_impl (some ⟨wr.heap.size + 1, 0, none⟩) 64 d1 M V1 HQ1.out HbM.out l1 m1).mono ?_
                rintro e w7 ⟨rfl, hb7⟩
                rw [HV.out]
                have kR : w7.heap[wr.heap.size]? = some (.cells #[.bool false, .int .i64 0, .int .i64 0, .int .i64 0] 28 (0, 0)) := (hb7.block wr.heap.size (by omega)).trans kR1
                have hbw : Below wr.heap.size wr w7 := b1'.trans (hb7.mono (by omega))
                obtain ⟨⟨t0, t1, t2, t3⟩, i0, i1, i2, i3⟩ := cells4s kR
                go_simp
                refine hK _ _ ?_
                clear hK K
                refine wpAny_ready (rs := [12]) (by kernel_rfl) (by simp) ?_
                refine AllReady.cons rfl (fun K hK => ?_) AllReady.nil
                go_simp
                refine hK _ _ ?_
                clear hK K
                refine wpAny_done (by kernel_rfl) ?_ _
                go_wp2_with fail
                go_meet
                exact ⟨wr.heap.size, rfl, four_below hbw (by omega) _ _ _ _, four_set kR _ _ _ _⟩
            · go_simp
              refine hK _ _ ?_
              clear hK K
              refine wpAny_ready (rs := [8]) (by kernel_rfl) (by simp) ?_
              refine AllReady.cons rfl (fun K hK => ?_) AllReady.nil
              go_simp
              refine hK _ _ ?_
              clear hK K
              refine wpAny_ready (rs := [9]) (by kernel_rfl) (by simp) ?_
              refine AllReady.cons rfl (fun K hK => ?_) AllReady.nil
              have cc := Hn1.out
              go_simp
              refine hK _ _ ?_
              clear hK K
              clear cc
              refine wpAny_ready (rs := [10]) (by kernel_rfl) (by simp) ?_
              refine AllReady.cons rfl (fun K hK => ?_) AllReady.nil
              go_simp
              refine (decodeHeader_impl (some ⟨wr.heap.size + 1, 0, none⟩) 64 d1 M V1 HQ1.out HbM.out l1 m1).mono ?_
              rintro e w7 ⟨rfl, hb7⟩
              rw [HV.out]
              have kR : w7.heap[wr.heap.size]? = some (.cells #[.bool false, .int .i64 0, .int .i64 0, .int .i64 0] 28 (0, 0)) := (hb7.block wr.heap.size (by omega)).trans kR1
              have hbw : Below wr.heap.size wr w7 := b1'.trans (hb7.mono (by omega))
              obtain ⟨⟨t0, t1, t2, t3⟩, i0, i1, i2, i3⟩ := cells4s kR
              go_simp
              refine hK _ _ ?_
              clear hK K
              refine wpAny_ready (rs := [12]) (by kernel_rfl) (by simp) ?_
              refine AllReady.cons rfl (fun K hK => ?_) AllReady.nil
              go_simp
              refine hK _ _ ?_
              clear hK K
              refine wpAny_done (by kernel_rfl) ?_ _
              go_wp2_with fail
              go_meet
              exact ⟨wr.heap.size, rfl, four_below hbw (by omega) _ _ _ _, four_set kR _ _ _ _⟩
          · go_simp
            refine hK _ _ ?_
            clear hK K
            refine wpAny_ready (rs := [7]) (by kernel_rfl) (by simp) ?_
            refine AllReady.cons rfl (fun K hK => ?_) AllReady.nil
            have cc := HcA1.out
            go_simp
            refine hK _ _ ?_
            clear hK K
            clear cc
            refine wpAny_ready (rs := [8]) (by kernel_rfl) (by simp) ?_
            refine AllReady.cons rfl (fun K hK => ?_) AllReady.nil
            go_simp
            refine hK _ _ ?_
            clear hK K
            refine wpAny_ready (rs := [9]) (by kernel_rfl) (by simp) ?_
            refine AllReady.cons rfl (fun K hK => ?_) AllReady.nil
            have cc := Hn1.out
            go_simp
            refine hK _ _ ?_
            clear hK K
            clear cc
            refine wpAny_ready (rs := [10]) (by kernel_rfl) (by simp) ?_
            refine AllReady.cons rfl (fun K hK => ?_) AllReady.nil
            go_simp
            refine (decodeHeader_impl (some ⟨wr.heap.size + 1, 0, none⟩) 64 d1 M V1 HQ1.out HbM.out l1 m1).mono ?_
            rintro e w7 ⟨rfl, hb7⟩
            rw [HV.out]
            have kR : w7.heap[wr.heap.size]? = some (.cells #[.bool false, .int .i64 0, .int .i64 0, .int .i64 0] 28 (0, 0)) := (hb7.block wr.heap.size (by omega)).trans kR1
            have hbw : Below wr.heap.size wr w7 := b1'.trans (hb7.mono (by omega))
            obtain ⟨⟨t0, t1, t2, t3⟩, i0, i1, i2, i3⟩ := cells4s kR
            go_simp
            refine hK _ _ ?_
            clear hK K
            refine wpAny_ready (rs := [12]) (by kernel_rfl) (by simp) ?_
            refine AllReady.cons rfl (fun K hK => ?_) AllReady.nil
            go_simp
            refine hK _ _ ?_
            clear hK K
            refine wpAny_done (by kernel_rfl) ?_ _
            go_wp2_with fail
            go_meet
            exact ⟨wr.heap.size, rfl, four_below hbw (by omega) _ _ _ _, four_set kR _ _ _ _⟩
        · have cc := HcA0.out
          go_simp
          refine hK _ _ ?_
          clear hK K
          clear cc
          refine wpAny_ready (rs := [3, 11]) (by kernel_rfl) (by simp) ?_
          refine AllReady.cons rfl (fun K hK => ?_) (AllReady.cons rfl (fun K hK => ?_) AllReady.nil)
          · have cc := HcB0.out
            go_simp
            refine hK _ _ ?_
            clear hK K
            clear cc
            refine wpAny_ready (rs := [8, 11]) (by kernel_rfl) (by simp) ?_
            refine AllReady.cons rfl (fun K hK => ?_) (AllReady.cons rfl (fun K hK => ?_) AllReady.nil)
            · go_simp
              refine hK _ _ ?_
              clear hK K
              refine wpAny_ready (rs := [9, 11]) (by kernel_rfl) (by simp) ?_
              refine AllReady.cons rfl (fun K hK => ?_) (AllReady.cons rfl (fun K hK => ?_) AllReady.nil)
              · have cc := Hn0.out
                go_simp
                refine hK _ _ ?_
                clear hK K
                clear cc
                refine wpAny_ready (rs := [10, 11]) (by kernel_rfl) (by simp) ?_
                refine AllReady.cons rfl (fun K hK => ?_) (AllReady.cons rfl (fun K hK => ?_) AllReady.nil)
                · go_simp
                  refine (decodeHeader_impl (some ⟨wr.heap.size, 0, none⟩) 64 d0 M V0 HQ0.out HbM.out l0 m0).mono ?_
                  rintro e w7 ⟨rfl, hb7⟩
                  rw [HV.out]
                  have hbw : Below wr.heap.size wr w7 := b0'.trans (hb7.mono (by omega))
                  go_simp
                  refine hK _ _ ?_
                  clear hK K
                  refine wpAny_ready (rs := [11]) (by kernel_rfl) (by simp) ?_
                  refine AllReady.cons rfl (fun K hK => ?_) AllReady.nil
                  go_simp
                  refine hK _ _ ?_
                  clear hK K
                  refine wpAny_ready (rs := [12]) (by kernel_rfl) (by simp) ?_
                  refine AllReady.cons rfl (fun K hK => ?_) AllReady.nil
                  go_simp
                  refine hK _ _ ?_
                  clear hK K
                  refine wpAny_done (by kernel_rfl) ?_ _
                  go_wp2_with fail
                  go_meet
                  exact ⟨_, rfl, hbw.alloc hbw.size _, heap_alloc_new w7 _⟩
                · go_simp
                  refine hK _ _ ?_
                  clear hK K
                  refine wpAny_ready (rs := [10]) (by kernel_rfl) (by simp) ?_
                  refine AllReady.cons rfl (fun K hK => ?_) AllReady.nil
                  go_simp
                  refine (decodeHeader_impl (some ⟨wr.heap.size, 0, none⟩) 64 d0 M (V0.alloc (.cells #[.bool false, .int .i64 0, .int .i64 0, .int .i64 0] 28)) (HQ0.out.below ((Below.refl _ _).alloc (Nat.le_refl _) _)) HbM.out l0 m0).mono ?_
                  rintro e w7 ⟨rfl, hb7⟩
                  rw [HV.out]
                  have kR : w7.heap[V0.heap.size]? = some (.cells #[.bool false, .int .i64 0, .int .i64 0, .int .i64 0] 28 (0, 0)) := (hb7.block V0.heap.size (by simp)).trans (heap_alloc_new V0 _)
                  have hbw : Below wr.heap.size wr w7 := (b0'.alloc (by omega) _).trans (hb7.mono (by simp; omega))
                  obtain ⟨⟨t0, t1, t2, t3⟩, i0, i1, i2, i3⟩ := cells4s kR
                  go_simp
                  refine hK _ _ ?_
                  clear hK K
                  refine wpAny_ready (rs := [12]) (by kernel_rfl) (by simp) ?_
                  refine AllReady.cons rfl (fun K hK => ?_) AllReady.nil
                  go_simp
                  refine hK _ _ ?_
                  clear hK K
                  refine wpAny_done (by kernel_rfl) ?_ _
                  go_wp2_with fail
                  go_meet
                  exact ⟨V0.heap.size, rfl, four_below hbw (by omega) _ _ _ _, four_set kR _ _ _ _⟩
              · go_simp
                refine hK _ _ ?_
                clear hK K
                refine wpAny_ready (rs := [9]) (by kernel_rfl) (by simp) ?_
                refine AllReady.cons rfl (fun K hK => ?_) AllReady.nil
                have cc := Hn1.out
                go_simp
                refine hK _ _ ?_
                clear hK K
                clear cc
                refine wpAny_ready (rs := [10]) (by kernel_rfl) (by simp) ?_
                refine AllReady.cons rfl (fun K hK => ?_) AllReady.nil
                go_simp
                refine (decodeHeader_impl (some ⟨wr.heap.size + 1, 0, none⟩) 64 d1 M V1 HQ1.out HbM.out l1 m1).mono ?_
                rintro e w7 ⟨rfl, hb7⟩
                rw [HV.out]
                have kR : w7.heap[wr.heap.size]? = some (.cells #[.bool false, .int .i64 0, .int .i64 0, .int .i64 0] 28 (0, 0)) := (hb7.block wr.heap.size (by omega)).trans kR1
                have hbw : Below wr.heap.size wr w7 := b1'.trans (hb7.mono (by omega))
                obtain ⟨⟨t0, t1, t2, t3⟩, i0, i1, i2, i3⟩ := cells4s kR
                go_simp
                refine hK _ _ ?_
                clear hK K
                refine wpAny_ready (rs := [12]) (by kernel_rfl) (by simp) ?_
                refine AllReady.cons rfl (fun K hK => ?_) AllReady.nil
                go_simp
                refine hK _ _ ?_
                clear hK K
                refine wpAny_done (by kernel_rfl) ?_ _
                go_wp2_with fail
                go_meet
                exact ⟨wr.heap.size, rfl, four_below hbw (by omega) _ _ _ _, four_set kR _ _ _ _⟩
            · go_simp
              refine hK _ _ ?_
              clear hK K
              refine wpAny_ready (rs := [8]) (by kernel_rfl) (by simp) ?_
              refine AllReady.cons rfl (fun K hK => ?_) AllReady.nil
              go_simp
              refine hK _ _ ?_
              clear hK K
              refine wpAny_ready (rs := [9]) (by kernel_rfl) (by simp) ?_
              refine AllReady.cons rfl (fun K hK => ?_) AllReady.nil
              have cc := Hn1.out
              go_simp
              refine hK _ _ ?_
              clear hK K
              clear cc
              refine wpAny_ready (rs := [10]) (by kernel_rfl) (by simp) ?_
              refine AllReady.cons rfl (fun K hK => ?_) AllReady.nil
              go_simp
              refine (decodeHeader_impl (some ⟨wr.heap.size + 1, 0, none⟩) 64 d1 M V1 HQ1.out HbM.out l1 m1).mono ?_
              rintro e w7 ⟨rfl, hb7⟩
              rw [HV.out]
              have kR : w7.heap[wr.heap.size]? = some (.cells #[.bool false, .int .i64 0, .int .i64 0, .int .i64 0] 28 (0, 0)) := (hb7.block wr.heap.size (by omega)).trans kR1
              have hbw : Below wr.heap.size wr w7 := b1'.trans (hb7.mono (by omega))
              obtain ⟨⟨t0, t1, t2, t3⟩, i0, i1, i2, i3⟩ := cells4s kR
              go_simp
              refine hK _ _ ?_
              clear hK K
              refine wpAny_ready (rs := [12]) (by kernel_rfl) (by simp) ?_
              refine AllReady.cons rfl (fun K hK => ?_) AllReady.nil
              go_simp
              refine hK _ _ ?_
              clear hK K
              refine wpAny_done (by kernel_rfl) ?_ _
              go_wp2_with fail
              go_meet
              exact ⟨wr.heap.size, rfl, four_below hbw (by omega) _ _ _ _, four_set kR _ _ _ _⟩
          · go_simp
            refine hK _ _ ?_
            clear hK K
            refine wpAny_ready (rs := [3]) (by kernel_rfl) (by simp) ?_
            refine AllReady.cons rfl (fun K hK => ?_) AllReady.nil
            have cc := HcB1.out
            go_simp
            refine hK _ _ ?_
            clear hK K
            clear cc
            refine wpAny_ready (rs := [8]) (by kernel_rfl) (by simp) ?_
            refine AllReady.cons rfl (fun K hK => ?_) AllReady.nil
            go_simp
            refine hK _ _ ?_
            clear hK K
            refine wpAny_ready (rs := [9]) (by kernel_rfl) (by simp) ?_
            refine AllReady.cons rfl (fun K hK => ?_) AllReady.nil
            have cc := Hn1.out
            go_simp
            refine hK _ _ ?_
            clear hK K
            clear cc
            refine wpAny_ready (rs := [10]) (by kernel_rfl) (by simp) ?_
            refine AllReady.cons rfl (fun K hK => ?_) AllReady.nil
            go_simp
            refine (decodeHeader_impl (some ⟨wr.heap.size + 1, 0, none⟩) 64 d1 M V1 HQ1.out HbM.out l1 m1).mono ?_
            rintro e w7 ⟨rfl, hb7⟩
            rw [HV.out]
            have kR : w7.heap[wr.heap.size]? = some (.cells #[.bool false, .int .i64 0, .int .i64 0, .int .i64 0] 28 (0, 0)) := (hb7.block wr.heap.size (by omega)).trans kR1
            have hbw : Below wr.heap.size wr w7 := b1'.trans (hb7.mono (by omega))
            obtain ⟨⟨t0, t1, t2, t3⟩, i0, i1, i2, i3⟩ := cells4s kR
            go_simp
            refine hK _ _ ?_
            clear hK K
            refine wpAny_ready (rs := [12]) (by kernel_rfl) (by simp) ?_
            refine AllReady.cons rfl (fun K hK => ?_) AllReady.nil
            go_simp
            refine hK _ _ ?_
            clear hK K
            refine wpAny_done (by kernel_rfl) ?_ _
            go_wp2_with fail
            go_meet
            exact ⟨wr.heap.size, rfl, four_below hbw (by omega) _ _ _ _, four_set kR _ _ _ _⟩
        · go_simp
          refine hK _ _ ?_
          clear hK K
          refine wpAny_ready (rs := [3, 7]) (by kernel_rfl) (by simp) ?_
          refine AllReady.cons rfl (fun K hK => ?_) (AllReady.cons rfl (fun K hK => ?_) AllReady.nil)
          · have cc := HcB1.out
            go_simp
            refine hK _ _ ?_
            clear hK K
            clear cc
            refine wpAny_ready (rs := [7]) (by kernel_rfl) (by simp) ?_
            refine AllReady.cons rfl (fun K hK => ?_) AllReady.nil
            have cc := HcA1.out
            go_simp
            refine hK _ _ ?_
            clear hK K
            clear cc
            refine wpAny_ready (rs := [8]) (by kernel_rfl) (by simp) ?_
            refine AllReady.cons rfl (fun K hK => ?_) AllReady.nil
            go_simp
            refine hK _ _ ?_
            clear hK K
            refine wpAny_ready (rs := [9]) (by kernel_rfl) (by simp) ?_
            refine AllReady.cons rfl (fun K hK => ?_) AllReady.nil
            have cc := Hn1.out
            go_simp
            refine hK _ _ ?_
            clear hK K
            clear cc
            refine wpAny_ready (rs := [10]) (by kernel_rfl) (by simp) ?_
            refine AllReady.cons rfl (fun K hK => ?_) AllReady.nil
            go_simp
            refine (decodeHeader_impl (some ⟨wr.heap.size + 1, 0, none⟩) 64 d1 M V1 HQ1.out HbM.out l1 m1).mono ?_
            rintro e w7 ⟨rfl, hb7⟩
            rw [HV.out]
            have kR : w7.heap[wr.heap.size]? = some (.cells #[.bool false, .int .i64 0, .int .i64 0, .int .i64 0] 28 (0, 0)) := (hb7.block wr.heap.size (by omega)).trans kR1
            have hbw : Below wr.heap.size wr w7 := b1'.trans (hb7.mono (by omega))
            obtain ⟨⟨t0, t1, t2, t3⟩, i0, i1, i2, i3⟩ := cells4s kR
            go_simp
            refine hK _ _ ?_
            clear hK K
            refine wpAny_ready (rs := [12]) (by kernel_rfl) (by simp) ?_
            refine AllReady.cons rfl (fun K hK => ?_) AllReady.nil
            go_simp
            refine hK _ _ ?_
            clear hK K
            refine wpAny_done (by kernel_rfl) ?_ _
            go_wp2_with fail
            go_meet
            exact ⟨wr.heap.size, rfl, four_below hbw (by omega) _ _ _ _, four_set kR _ _ _ _⟩
          · have cc := HcA1.out
            go_simp
            refine hK _ _ ?_
            clear hK K
            clear cc
            refine wpAny_ready (rs := [3]) (by kernel_rfl) (by simp) ?_
            refine AllReady.cons rfl (fun K hK => ?_) AllReady.nil
            have cc := HcB1.out
            go_simp
            refine hK _ _ ?_
            clear hK K
            clear cc
            refine wpAny_ready (rs := [8]) (by kernel_rfl) (by simp) ?_
            refine AllReady.cons rfl (fun K hK => ?_) AllReady.nil
            go_simp
            refine hK _ _ ?_
            clear hK K
            refine wpAny_ready (rs := [9]) (by kernel_rfl) (by simp) ?_
            refine AllReady.cons rfl (fun K hK => ?_) AllReady.nil
            have cc := Hn1.out
            go_simp
            refine hK _ _ ?_
            clear hK K
            clear cc
            refine wpAny_ready (rs := [10]) (by kernel_rfl) (by simp) ?_
            refine AllReady.cons rfl (fun K hK => ?_) AllReady.nil
            go_simp
            refine (decodeHeader_impl (some ⟨wr.heap.size + 1, 0, none⟩) 64 d1 M V1 HQ1.out HbM.out l1 m1).mono ?_
            rintro e w7 ⟨rfl, hb7⟩
            rw [HV.out]
            have kR : w7.heap[wr.heap.size]? = some (.cells #[.bool false, .int .i64 0, .int .i64 0, .int .i64 0] 28 (0, 0)) := (hb7.block wr.heap.size (by omega)).trans kR1
            have hbw : Below wr.heap.size wr w7 := b1'.trans (hb7.mono (by omega))
            obtain ⟨⟨t0, t1, t2, t3⟩, i0, i1, i2, i3⟩ := cells4s kR
            go_simp
            refine hK _ _ ?_
            clear hK K
            refine wpAny_ready (rs := [12]) (by kernel_rfl) (by simp) ?_
            refine AllReady.cons rfl (fun K hK => ?_) AllReady.nil
            go_simp
            refine hK _ _ ?_
            clear hK K
            refine wpAny_done (by kernel_rfl) ?_ _
            go_wp2_with fail
            go_meet
            exact ⟨wr.heap.size, rfl, four_below hbw (by omega) _ _ _ _, four_set kR _ _ _ _⟩
      case rest =>
        obtain ⟨R, rfl, hbx, kR⟩ := hcut
        have hbq : Below w6.heap.size w6 wc := hbr.trans (hbx.mono hbr.size)
        have kO := (hbq.block w1.heap.size x6).trans HK6.out
        have jO := (hbq.block w2.heap.size y6).trans HJ6.out
        obtain ⟨⟨o0, o1, o2⟩, _, _, _⟩ := cells3f kO
        obtain ⟨⟨p0, p1, p2⟩, _, _, _⟩ := cells3f jO
        obtain ⟨⟨t0, t1, t2, t3⟩, _, _, _, _⟩ := cells4s kR
        have key : (gd = false ∧ 0 < k ∧ k < 64) ∨ (gd = true ∧ S = s ∧ P = p ∧ Q = q ∧ k < 64) ∨ (gd = true ∧ S = s' ∧ P = p' ∧ Q = q' ∧ 0 < k) ∨ (gd = true ∧ s = s' ∧ 0 < k ∧ k < 64) := tornKey HHA.out HHB.out hle HM.out HV.out
        have HBq : Hid (Below w6.heap.size w6 wc) := hbq
        clear hbx kR kO jO HM HV HcB0 HcB1 HcA0 HcA1 Hn0 Hn1 happ hsum HQ0 HQ1 kR1 b0' b1' hAD1 hAD2 hbr
        have ks : (s != s) = false := by simp
        have kp : (p != p) = false := by simp
        have kq : (q != q) = false := by simp
        have ks' : (s' != s') = false := by simp
        have kp' : (p' != p') = false := by simp
        have kq' : (q' != q') = false := by simp
        by_cases hss : s = s'
        · subst hss
          rcases key with ⟨rfl, k0, k1⟩ | ⟨rfl, rfl, rfl, rfl, k1⟩ | ⟨rfl, rfl, rfl, rfl, k0⟩ | ⟨rfl, e, k0, k1⟩
          · have z0 : ((k : Int) == 0) = false := by simp; omega
            have z1 : ((k : Int) == 64) = false := by simp; omega
            go_wp2
            first | exact ⟨⟨k + 1, by omega, by go_num, HBq.out⟩, by simp [intOf]; omega⟩ | (refine ⟨?_, by simp [intOf]; omega⟩; (repeat apply Exists.intro); exact ⟨⟨k + 1, by omega, by go_num, HBq.out⟩, rfl⟩)
          · have z1 : ((k : Int) == 64) = false := by simp; omega
            by_cases hz : k = 0
            · have z0 : ((k : Int) == 0) = true := by simp [hz]
              clear hz
              go_wp2
              first | exact ⟨⟨k + 1, by omega, by go_num, HBq.out⟩, by simp [intOf]; omega⟩ | (refine ⟨?_, by simp [intOf]; omega⟩; (repeat apply Exists.intro); exact ⟨⟨k + 1, by omega, by go_num, HBq.out⟩, rfl⟩)
            · have z0 : ((k : Int) == 0) = false := by simp; omega
              clear hz
              go_wp2
              first | exact ⟨⟨k + 1, by omega, by go_num, HBq.out⟩, by simp [intOf]; omega⟩ | (refine ⟨?_, by simp [intOf]; omega⟩; (repeat apply Exists.intro); exact ⟨⟨k + 1, by omega, by go_num, HBq.out⟩, rfl⟩)
          · have z0 : ((k : Int) == 0) = false := by simp; omega
            by_cases hz : k = 64
            · have z1 : ((k : Int) == 64) = true := by simp [hz]
              clear hz
              go_wp2
              first | exact ⟨⟨k + 1, by omega, by go_num, HBq.out⟩, by simp [intOf]; omega⟩ | (refine ⟨?_, by simp [intOf]; omega⟩; (repeat apply Exists.intro); exact ⟨⟨k + 1, by omega, by go_num, HBq.out⟩, rfl⟩)
            · have z1 : ((k : Int) == 64) = false := by simp; omega
              clear hz
              go_wp2
              first | exact ⟨⟨k + 1, by omega, by go_num, HBq.out⟩, by simp [intOf]; omega⟩ | (refine ⟨?_, by simp [intOf]; omega⟩; (repeat apply Exists.intro); exact ⟨⟨k + 1, by omega, by go_num, HBq.out⟩, rfl⟩)
          · clear e
            have z0 : ((k : Int) == 0) = false := by simp; omega
            have z1 : ((k : Int) == 64) = false := by simp; omega
            go_wp2
            first | exact ⟨⟨k + 1, by omega, by go_num, HBq.out⟩, by simp [intOf]; omega⟩ | (refine ⟨?_, by simp [intOf]; omega⟩; (repeat apply Exists.intro); exact ⟨⟨k + 1, by omega, by go_num, HBq.out⟩, rfl⟩)
        · have hs1 : (s != s') = true := by simp [hss]
          have hs2 : (s' != s) = true := by simp [Ne.symm hss]
          have hs3 : (s == s') = false := by simp [hss]
          have hs4 : (s' == s) = false := by simp [Ne.symm hss]
          rcases key with ⟨rfl, k0, k1⟩ | ⟨rfl, rfl, rfl, rfl, k1⟩ | ⟨rfl, rfl, rfl, rfl, k0⟩ | ⟨rfl, e, k0, k1⟩
          · have z0 : ((k : Int) == 0) = false := by simp; omega
            have z1 : ((k : Int) == 64) = false := by simp; omega
            go_wp2
            first | exact ⟨⟨k + 1, by omega, by go_num, HBq.out⟩, by simp [intOf]; omega⟩ | (refine ⟨?_, by simp [intOf]; omega⟩; (repeat apply Exists.intro); exact ⟨⟨k + 1, by omega, by go_num, HBq.out⟩, rfl⟩)
          · have z1 : ((k : Int) == 64) = false := by simp; omega
            by_cases hz : k = 0
            · have z0 : ((k : Int) == 0) = true := by simp [hz]
              clear hz
              go_wp2
              first | exact ⟨⟨k + 1, by omega, by go_num, HBq.out⟩, by simp [intOf]; omega⟩ | (refine ⟨?_, by simp [intOf]; omega⟩; (repeat apply Exists.intro); exact ⟨⟨k + 1, by omega, by go_num, HBq.out⟩, rfl⟩)
            · have z0 : ((k : Int) == 0) = false := by simp; omega
              clear hz
              go_wp2
              first | exact ⟨⟨k + 1, by omega, by go_num, HBq.out⟩, by simp [intOf]; omega⟩ | (refine ⟨?_, by simp [intOf]; omega⟩; (repeat apply Exists.intro); exact ⟨⟨k + 1, by omega, by go_num, HBq.out⟩, rfl⟩)
          · have z0 : ((k : Int) == 0) = false := by simp; omega
            by_cases hz : k = 64
            · have z1 : ((k : Int) == 64) = true := by simp [hz]
              clear hz
              go_wp2
              first | exact ⟨⟨k + 1, by omega, by go_num, HBq.out⟩, by simp [intOf]; omega⟩ | (refine ⟨?_, by simp [intOf]; omega⟩; (repeat apply Exists.intro); exact ⟨⟨k + 1, by omega, by go_num, HBq.out⟩, rfl⟩)
            · have z1 : ((k : Int) == 64) = false := by simp; omega
              clear hz
              go_wp2
              first | exact ⟨⟨k + 1, by omega, by go_num, HBq.out⟩, by simp [intOf]; omega⟩ | (refine ⟨?_, by simp [intOf]; omega⟩; (repeat apply Exists.intro); exact ⟨⟨k + 1, by omega, by go_num, HBq.out⟩, rfl⟩)
          · exact absurd e hss
    · have hk65 : ¬ (k : Int) ≤ 64 := by omega
      have HB7 := HBr
      go_wp2
      go_ret
      exact ⟨rfl, HB7.out⟩
end Go.Proofs.Ytkkammbfomiofaa
