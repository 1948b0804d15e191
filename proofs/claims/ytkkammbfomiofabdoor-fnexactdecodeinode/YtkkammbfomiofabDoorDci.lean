/-
  The model's DecodeInode: the walk.
-/
import Derived.Test.YtkkammbfomiofabDoorRin
import Derived.Test.YtkkammbfomiofabDoorInz
namespace Go.Proofs.YtkkammbfomiofabDoor
open Go.RowKit
set_option linter.unusedSimpArgs false
set_option linter.unusedVariables false

/-- What the model takes for the name: the bytes ahead of the first zero. -/
def nzL (xs : List Int) (i : Nat) : Prop := ∀ j, j < i → xs[j]?.getD 0 ≠ 0
structure Dsi (w W : World) (xs : List Int) (L : Nat) (N : ByteArray) (Z : Int) (ad : Option Addr) (j cc : Nat) : Prop where
  var : W.heap[L]? = some (.cells #[.string N, .int .i64 Z, .slice ad j cc] 25 (0, 0))
  res : W.heap[w.heap.size]? = some (.cells #[.bool false, .string ⟨#[]⟩, .int .i64 0, .slice none 0 0] 27 (0, 0))
  bel : Below w.heap.size w W
  own : W.ownsRow w.heap.size 2 1 (.slice ad j cc) j (i64G (inL xs j))
  hL : w.heap.size < L
theorem strOf_snoc (xs : List Int) (x : Int) : strOf xs ++ strOf [x] = strOf (xs ++ [x]) := by
  unfold strOf
  rw [ByteArray.mk_append_mk]
  simp
theorem strOf_len (xs : List Int) : (strOf xs).size = xs.length := by simp [strOf, ByteArray.size]
theorem Dsi.drew {w W : World} {xs : List Int} {L : Nat} {N : ByteArray} {Z : Int} {ad : Option Addr} {j cc : Nat} (h : Dsi w W xs L N Z ad j cc) : Dsi w W.drew xs L N Z ad j cc :=
  ⟨h.var, h.res, h.bel.drew, gn_kept h.own (Kept.drew W (fun _ => False)) (fun _ _ h => h), h.hL⟩
theorem Dsi.alloc {w W : World} {xs : List Int} {L : Nat} {N : ByteArray} {Z : Int} {ad : Option Addr} {j cc : Nat} (h : Dsi w W xs L N Z ad j cc) (o : Obj) : Dsi w (W.alloc o) xs L N Z ad j cc := by
  have bo : Below W.heap.size W (W.alloc o) := (Below.refl _ W).alloc (Nat.le_refl _) o
  exact ⟨(bo.block _ (Array.getElem?_eq_some_iff.1 h.var).1).trans h.var, (bo.block _ (Array.getElem?_eq_some_iff.1 h.res).1).trans h.res, h.bel.trans (bo.mono h.bel.size), h.own.alloc o, h.hL⟩
theorem Dsi.name {w W : World} {xs : List Int} {L : Nat} {N : ByteArray} {Z : Int} {ad : Option Addr} {j cc : Nat} (h : Dsi w W xs L N Z ad j cc) (N' : ByteArray) : Dsi w (W.setCell ⟨L, 0, none⟩ (.string N')) xs L N' Z ad j cc := by
  have hL := h.hL
  have kk : Kept (fun g => g = L) W (W.setCell ⟨L, 0, none⟩ (.string N')) := Kept.setCell W ⟨L, 0, none⟩ _ _ rfl
  refine ⟨by simp [World.setCell, Array.getElem?_modify, h.var], by rw [gn_set (by omega)]; exact h.res, h.bel.setCell (by show w.heap.size ≤ L; omega) _, gn_kept h.own kk (fun g hg e => gn_ne h.own h.var (by decide) (by rw [← e]; exact hg)), hL⟩
theorem Dsi.push {w W w5 : World} {xs : List Int} {L : Nat} {N : ByteArray} {Z : Int} {ad : Option Addr} {j cc : Nat} (h : Dsi w W xs L N Z ad j cc) {o : Obj} {v : Value}
    (hg : (W.alloc o).grownBy w5 (Value.slice ad j cc).ownBlock) (ho : w5.ownsRow w.heap.size 2 1 v (j + 1) (i64G (inL xs j) ++ [.int .i64 (inLid xs j)])) :
    ∃ a5 c5, v = .slice a5 (j + 1) c5 ∧ (w5.cell? ⟨L, 2, none⟩ = some (.slice ad j cc) ∧ w5.frozen? ⟨L, 2, none⟩ = false) ∧ Dsi w (w5.setCell ⟨L, 2, none⟩ (.slice a5 (j + 1) c5)) xs L N Z a5 (j + 1) c5 := by
  obtain ⟨a5, c5, rfl⟩ := gn_shape ho
  have hL := h.hL
  have h1 := h.alloc o
  have nL := gn_ne h1.own h1.var (by decide)
  have nR := gn_ne h1.own h1.res (by decide)
  have v5 := (hg.block L (Array.getElem?_eq_some_iff.1 h1.var).1 (fun e => nL e.symm)).trans h1.var
  have s5 := (hg.block w.heap.size (Array.getElem?_eq_some_iff.1 h1.res).1 (fun e => nR e.symm)).trans h1.res
  have b5 : Below w.heap.size w w5 := h1.bel.trans ((gn_grown hg).below h1.bel.size (fun g hg' => (h1.own.lt g hg').1))
  have kk : Kept (fun g => g = L) w5 (w5.setCell ⟨L, 2, none⟩ (.slice a5 (j + 1) c5)) := Kept.setCell w5 ⟨L, 2, none⟩ _ _ rfl
  have n5 := gn_ne ho v5 (by decide)
  refine ⟨a5, c5, rfl, ⟨by rw [cell_of_row w5 L 2 _ _ _ v5]; rfl, by simp [World.frozen?, v5]⟩, by simp [World.setCell, Array.getElem?_modify, v5], by rw [gn_set (by omega)]; exact s5, b5.setCell (by show w.heap.size ≤ L; omega) _, ?_, hL⟩
  rw [inL_succ, i64G, List.map_append]
  exact gn_kept ho kk (fun g hg e => n5 (by rw [← e]; exact hg))
theorem byt_padS {l : List Int} (h : Byt l) (n : Nat) : Byt (padL l n) := fun x hx => by
  unfold padL at hx
  rcases List.mem_append.1 hx with hx | hx
  · exact h x hx
  · rw [List.eq_of_mem_replicate hx]; omega
theorem encI_byt (nm : ByteArray) (z : Int) (xs : List Int) : Byt (encI nm z xs) := by
  unfold encI
  split
  · unfold inoL
    refine byt_padS (fun x hx => ?_) 64
    rcases List.mem_append.1 hx with hx | hx
    · rcases List.mem_append.1 hx with hx | hx
      · refine byt_padS (fun y hy => ?_) 16 x hx
        unfold nmL at hy
        obtain ⟨b, _, rfl⟩ := List.mem_map.1 hy
        have := b.toNat_lt
        omega
      · exact beB_byt _ _ x hx
    · unfold lidL at hx
      obtain ⟨v, _, hx⟩ := List.mem_flatMap.1 hx
      exact beB_byt _ _ x hx
  · exact fun x hx => by cases hx
theorem wrap_small' (x : Int) (h0 : 0 ≤ x) (h1 : x ≤ 4194304) : IntKind.i64.wrap x = x := by simp [IntKind.wrap, IntKind.signed, IntKind.bits]; omega
/-- What the model's DecodeInode answers. -/
def SIAns (w w' : World) (e : Ending) (xs : List Int) : Prop := Below w.heap.size w w' ∧ ∃ i, i ≤ 16 ∧ nzL xs i ∧ (i = 16 ∨ xs[i]?.getD 0 = 0) ∧
      ((¬ (inZ xs ≤ 1408 ∧ encI (strOf (xs.take i)) (inZ xs) (inL xs (inK xs)) = xs) ∧ e = .returned (.agg #[.bool false, .string ⟨#[]⟩, .int .i64 0, .slice none 0 0])) ∨
       ((inZ xs ≤ 1408 ∧ encI (strOf (xs.take i)) (inZ xs) (inL xs (inK xs)) = xs) ∧ ∃ a c, e = .returned (.agg #[.bool true, .string (strOf (xs.take i)), .int .i64 (inZ xs), .slice a (inK xs) c]) ∧ w'.ownsRow w.heap.size 2 1 (.slice a (inK xs) c) (inK xs) (i64G (inL xs (inK xs)))))
theorem four_ofS {w : World} {g : Nat} {x0 x1 x2 x3 : Value} {t : TypeId} (k1 : w.heap[g]? = some (.cells #[x0, x1, x2, x3] t (0, 0))) :
    (w.cell? ⟨g, 0, none⟩ = some x0 ∧ w.cell? ⟨g, 1, none⟩ = some x1 ∧ w.cell? ⟨g, 2, none⟩ = some x2 ∧ w.cell? ⟨g, 3, none⟩ = some x3) ∧ w.frozen? ⟨g, 0, none⟩ = false ∧ w.frozen? ⟨g, 1, none⟩ = false ∧ w.frozen? ⟨g, 2, none⟩ = false ∧ w.frozen? ⟨g, 3, none⟩ = false := by
  refine ⟨⟨?_, ?_, ?_, ?_⟩, ?_, ?_, ?_, ?_⟩
  · rw [cell_of_row w g 0 _ _ _ k1]; rfl
  · rw [cell_of_row w g 1 _ _ _ k1]; rfl
  · rw [cell_of_row w g 2 _ _ _ k1]; rfl
  · rw [cell_of_row w g 3 _ _ _ k1]; rfl
  all_goals simp [World.frozen?, k1]
set_option maxHeartbeats 8000000 in
set_option maxRecDepth 100000 in
theorem decodeInode_spec (g off c : Nat) (xs : List Int) (w : World) (ha : IRow .u8 w (some ⟨g, off, none⟩) 64 xs) (hx : Byt xs) (hc : 64 ≤ c) (hm : c ≤ 9223372036854775807) :
    Calls Tryd.prog 4 #[.slice (some ⟨g, off, none⟩) 64 c] w fun e w' => SIAns w w' e xs := by
  obtain ⟨i0, hi0, hz0, hz1, hz2⟩ := info_parts info2
  obtain ⟨z0, z1⟩ := inZ_range hx (by rw [ha.1]; omega)
  have bA : Below w.heap.size w (w.alloc (.cells #[.bool false, .string ⟨#[]⟩, .int .i64 0, .slice none 0 0] 27)) := (Below.refl _ w).alloc (Nat.le_refl _) _
  have cA := heap_alloc_new w (.cells #[.bool false, .string ⟨#[]⟩, .int .i64 0, .slice none 0 0] 27)
  have HA : Hid (IRow .u8 w (some ⟨g, off, none⟩) 64 xs ∧ Byt xs) := ⟨ha, hx⟩
  have r16 : IRow .u8 w (some ⟨g, off + 16, none⟩) 2 ((xs.drop 16).take 2) := irow_takeN 2 (by omega) (irow_drop 16 (by omega) ha)
  go_enter Tryd.func4, Tryd.ntmps4
  go_wp2_with fail
  refine (l2Number_any (some ⟨g, off + 16, none⟩) 2 (c - 16) ((xs.drop 16).take 2) _ (r16.below bA) (by omega)).mono ?_
  rintro e w1 ⟨rfl, rfl⟩
  obtain ⟨Z, hZ⟩ : ∃ Z, inZ xs = Z := ⟨_, rfl⟩
  have HZ : Hid (inZ xs = Z) := hZ
  rw [show wrap64 (numI ((xs.drop 16).take 2)) = Z from hZ]
  rw [hZ] at z0 z1
  have hst : Dsi w ((w.alloc (.cells #[.bool false, .string ⟨#[]⟩, .int .i64 0, .slice none 0 0] 27)).alloc (.cells #[.string ⟨#[]⟩, .int .i64 Z, .slice none 0 0] 25)) xs (w.heap.size + 1) (strOf (xs.take 0)) Z none 0 0 := by
    obtain ⟨k1, k2, hb0, s0⟩ := @two_blocks w (.cells #[.bool false, .string ⟨#[]⟩, .int .i64 0, .slice none 0 0] 27) (.cells #[.string ⟨#[]⟩, .int .i64 Z, .slice none 0 0] 25)
    exact ⟨k2, k1, hb0, ⟨rfl, .inl ⟨rfl, rfl⟩⟩, by omega⟩
  have HST : Hid (Dsi w ((w.alloc (.cells #[.bool false, .string ⟨#[]⟩, .int .i64 0, .slice none 0 0] 27)).alloc (.cells #[.string ⟨#[]⟩, .int .i64 Z, .slice none 0 0] 25)) xs (w.heap.size + 1) (strOf (xs.take 0)) Z none 0 0) := hst
  obtain ⟨L, hL⟩ : ∃ L, w.heap.size + 1 = L := ⟨_, rfl⟩
  have HL : Hid (w.heap.size + 1 = L) := hL
  rw [hL] at HST
  clear hst hZ r16 bA cA ha hx hL
  go_wp2
  try rw [HL.out]
  go_loopw [4] (fun q wr => ∃ i : Nat, i ≤ 16 ∧ q = .int .i64 i ∧ Hid (nzL xs i) ∧ Hid (Dsi w wr xs L (strOf (xs.take i)) Z none 0 0)) (fun q _ => 16 - (intOf q).toNat)
  case atStart => exact ⟨0, Nat.zero_le _, rfl, fun j hj => absurd hj (Nat.not_lt_zero _), HST⟩
  case round =>
    clear HST
    obtain ⟨i, hi, rfl, HNZ, HD⟩ := hrel
    obtain ⟨⟨v0, v1, v2⟩, g0, g1, g2⟩ := three_of HD.out.var
    have hLw := (Array.getElem?_eq_some_iff.1 HD.out.var).1
    have cb : ∀ q, q < 64 → wr.cell? ⟨g, off + q, none⟩ = some (.int .u8 (xs[q]?.getD 0)) := fun q hq => by
      obtain ⟨g', off', e', hcc⟩ := (HA.out.1.below HD.out.bel).2.resolve_left (by omega)
      injection e' with e'
      injection e' with e1 e2
      subst e1; subst e2
      exact hcc q hq
    have HCB := Hid.out cb
    by_cases hstep : i < 16 ∧ xs[i]?.getD 0 ≠ 0
    · obtain ⟨hlt, hne⟩ := hstep
      have c1 := HCB i (by omega)
      have hgw : g < wr.heap.size := World.block_lt_of_cell? wr _ c1
      have hgl : g ≠ L := by
        have h1 := HD.out.hL
        obtain ⟨g', off', e', hcc⟩ := HA.out.1.2.resolve_left (by omega)
        injection e' with e'
        injection e' with e1 e2
        subst e1
        have h2 := World.block_lt_of_cell? w _ (hcc 0 (by omega))
        simp only at h2
        omega
      have HTK : Hid (strOf (xs.take i) ++ strOf [xs[i]?.getD 0] = strOf (xs.take (i + 1))) := by
        show _ = _
        rw [strOf_snoc]
        congr 1
        rw [List.take_succ_eq_append_getElem (by rw [HA.out.1.1]; omega), List.getElem?_eq_getElem (by rw [HA.out.1.1]; omega)]
        rfl
      have HNZ' : Hid (nzL xs (i + 1)) := fun j hj => by
        by_cases e : j = i
        · subst e; exact hne
        · exact HNZ.out j (by omega)
      obtain ⟨x0, x1⟩ := HA.out.2.at i (by rw [HA.out.1.1]; omega)
      obtain ⟨x, hx⟩ : ∃ x, xs[i]?.getD 0 = x := ⟨_, rfl⟩
      rw [hx] at c1 hne HTK x0 x1
      have hne' : (x != 0) = true := by simpa using hne
      have hsz : (strOf (xs.take i)).size + (strOf [x]).size ≤ 100 := by rw [strOf_len, strOf_len]; simp; omega
      have hsz' : ((strOf (xs.take i)).size : Int) + ((strOf [x]).size : Int) ≤ 100 := by omega
      generalize hNM : strOf (xs.take i) = NM at *
      have bx : Byt [x] := fun y hy => by simp only [List.mem_singleton] at hy; subst hy; exact ⟨x0, x1⟩
      have ri : IRow .u8 ((wr.alloc (.cells #[.int .u8 x] 5)).drew) (some ⟨wr.heap.size, 0, none⟩) 1 [x] := by
        refine ⟨rfl, .inr ⟨wr.heap.size, 0, rfl, fun q hq => ?_⟩⟩
        obtain rfl : q = 0 := by omega
        show (wr.alloc _).cell? _ = _
        rw [cell_of_row _ wr.heap.size _ _ _ _ (heap_alloc_new wr _)]
        rfl
      have hcv := conv_str 1 ri bx
      have hSA : ((wr.alloc (.cells #[.int .u8 x] 5)).drew).cell? ⟨g, off + i, none⟩ = some (.int .u8 x) := (World.cell?_alloc_lt wr _ _ hgw).trans c1
      have HDN : Hid (Dsi w (((wr.setCell ⟨L, 0, none⟩ (.string (NM ++ strOf [x]))).alloc (.cells #[.int .u8 x] 5)).drew) xs L (strOf (xs.take (i + 1))) Z none 0 0) := by
        show Dsi _ _ _ _ _ _ _ _ _
        rw [← HTK.out]
        exact ((HD.out.name _).alloc _).drew
      have HSF : Hid ((((wr.setCell ⟨L, 0, none⟩ (.string (NM ++ strOf [x]))).alloc (.cells #[.int .u8 x] 5)).drew).cell? ⟨g, off + i, none⟩ = some (.int .u8 x)) := (World.cell?_alloc_lt _ _ _ (by simpa using hgw)).trans ((World.cell?_setCell_far _ _ _ _ (by show L ≠ g; omega)).trans c1)
      generalize hSX : strOf [x] = SX at *
      have v0A : ((wr.alloc (.cells #[.int .u8 x] 5)).drew).cell? ⟨L, 0, none⟩ = some (.string NM) := (World.cell?_alloc_lt wr _ _ hLw).trans v0
      clear hne hx hNM hSX ri bx HTK HCB cb
      clear HD
      go_wp2
      refine wp_region_held_drew (S := fun V => V.cell? ⟨g, off + i, none⟩ = some (.int .u8 x)) (by kernel_rfl) c1 (fun hS => ?_)
      refine wpAnyH_take (i := 0) (v := .pointer (some ⟨L, 0, none⟩)) rfl (by kernel_rfl) (by kernel_rfl) (by kernel_rfl) (fun _ _ _ h => h) (Or.inl ⟨rfl, fun V hV => by go_simp⟩) hS ?_
      refine wpAnyH_take (i := 2) (v := .slice (some ⟨g, off, none⟩) 64 c) rfl (by kernel_rfl) (by kernel_rfl) (by kernel_rfl) (fun _ _ _ h => h) (Or.inl ⟨rfl, fun V hV => by go_simp⟩) hS ?_
      refine wpAnyH_take (i := 3) (v := .int .i64 (i : Int)) rfl (by kernel_rfl) (by kernel_rfl) (by kernel_rfl) (fun _ _ _ h => h) (Or.inl ⟨rfl, fun V hV => by go_simp⟩) hS ?_
      refine wpAnyH_take (i := 4) (v := .pointer (some ⟨g, off + i, none⟩)) rfl (by kernel_rfl) (by kernel_rfl) (by kernel_rfl) (fun _ _ _ h => h) (Or.inl ⟨rfl, fun V hV => by go_simp; intro h; exact absurd h (by omega)⟩) hS ?_
      refine wpAnyH_take (i := 5) (v := .int .u8 x) rfl (by kernel_rfl) (by kernel_rfl) (by kernel_rfl) (fun _ _ _ h => h) (Or.inl ⟨rfl, fun V hV => by go_simp⟩) hS ?_
      refine wpAnyH_ready (rs := [1, 6]) (by kernel_rfl) (by simp) (AllReadyH.cons rfl (fun K hK => ?_) (AllReadyH.cons rfl (fun K hK => ?_) AllReadyH.nil))
      case' refine_1 =>
        go_simp
        refine hK.out _ _ hS (fun _ => ?_)
        clear hK K
        refine wpAnyH_ready (rs := [6]) (by kernel_rfl) (by simp) (AllReadyH.cons rfl (fun K hK => ?_) AllReadyH.nil)
        go_simp
        refine hK.out _ _ hSA (fun _ => ?_)
        clear hK K hS
        have hS := hSA
        refine wpAnyH_ready (rs := [7]) (by kernel_rfl) (by simp) (AllReadyH.cons rfl (fun K hK => ?_) AllReadyH.nil)
        go_simp
        refine hK.out _ _ hS (fun _ => ?_)
        clear hK K
      case' refine_2 =>
        go_simp
        refine hK.out _ _ hSA (fun _ => ?_)
        clear hK K hS
        have hS := hSA
        refine wpAnyH_ready (rs := [1, 7]) (by kernel_rfl) (by simp) (AllReadyH.cons rfl (fun K hK => ?_) (AllReadyH.cons rfl (fun K hK => ?_) AllReadyH.nil))
      case' refine_2.refine_1 =>
        go_simp
        refine hK.out _ _ hS (fun _ => ?_)
        clear hK K
        refine wpAnyH_ready (rs := [7]) (by kernel_rfl) (by simp) (AllReadyH.cons rfl (fun K hK => ?_) AllReadyH.nil)
        go_simp
        refine hK.out _ _ hS (fun _ => ?_)
        clear hK K
      case' refine_2.refine_2 =>
        go_simp
        refine hK.out _ _ hS (fun _ => ?_)
        clear hK K
        refine wpAnyH_ready (rs := [1]) (by kernel_rfl) (by simp) (AllReadyH.cons rfl (fun K hK => ?_) AllReadyH.nil)
        go_simp
        refine hK.out _ _ hS (fun _ => ?_)
        clear hK K
      all_goals
        refine wpAnyH_take (i := 8) (v := .string (NM ++ SX)) rfl (by kernel_rfl) (by kernel_rfl) (by kernel_rfl) (fun _ _ _ h => h) (Or.inl ⟨rfl, fun V hV => by go_simp; omega⟩) hS ?_
        refine wpAnyH_take (i := 9) (v := .pointer (some ⟨L, 0, none⟩)) rfl (by kernel_rfl) (by kernel_rfl) (by kernel_rfl) (fun _ _ _ h => h) (Or.inl ⟨rfl, fun V hV => by go_simp⟩) hS ?_
        refine wpAnyH_ready (rs := [10]) (by kernel_rfl) (by simp) (AllReadyH.cons rfl (fun K hK => ?_) AllReadyH.nil)
        go_simp
        refine hK.out _ _ HSF.out (fun _ => ?_)
        refine wpAnyH_done (by kernel_rfl) ?_ _
        clear hK K
        go_wp2
        go_roundw
        case rel => exact ⟨i + 1, by omega, by go_num, HNZ', HDN⟩
        case measure => simp [intOf]; omega
    · have hstop : i = 16 ∨ xs[i]?.getD 0 = 0 := by
        by_cases e : i < 16
        · exact .inr (Classical.byContradiction fun h => hstep ⟨e, h⟩)
        · exact .inl (by omega)
      have HSTOP : Hid (i = 16 ∨ xs[i]?.getD 0 = 0) := hstop
      have c1 := HCB i (by omega)
      have hguard : ¬ i < 16 ∨ (i < 16 ∧ (xs[i]?.getD 0 != 0) = false) := by
        by_cases e : i < 16
        · exact .inr ⟨e, by simpa using Classical.byContradiction fun h => hstep ⟨e, h⟩⟩
        · exact .inl e
      obtain ⟨⟨y0, y1, y2, y3⟩, f0, f1, f2, f3⟩ := four_ofS HD.out.res
      have hRw := (Array.getElem?_eq_some_iff.1 HD.out.res).1
      obtain ⟨NM, hNM⟩ : ∃ NM, strOf (xs.take i) = NM := ⟨_, rfl⟩
      have HNM : Hid (strOf (xs.take i) = NM) := hNM
      rw [hNM] at HD v0
      have HBAD : Hid (∀ W, Below w.heap.size w W → (¬ (inZ xs ≤ 1408 ∧ encI NM (inZ xs) (inL xs (inK xs)) = xs)) → ∀ u0 u1 u2 u3, SIAns w ((((W.setCell ⟨w.heap.size, 0, none⟩ u0).setCell ⟨w.heap.size, 1, none⟩ u1).setCell ⟨w.heap.size, 2, none⟩ u2).setCell ⟨w.heap.size, 3, none⟩ u3) (.returned (.agg #[.bool false, .string ⟨#[]⟩, .int .i64 0, .slice none 0 0])) xs) := fun W hW hno u0 u1 u2 u3 =>
        ⟨(((hW.setCell (Nat.le_refl _) _).setCell (Nat.le_refl _) _).setCell (Nat.le_refl _) _).setCell (Nat.le_refl _) _, i, hi, HNZ.out, HSTOP.out, .inl ⟨by rw [hNM]; exact hno, rfl⟩⟩
      clear hstep hstop cb
      generalize xs[i]?.getD 0 = x at c1 hguard
      clear hNM
      by_cases hz : Z ≤ 1408
      rotate_left
      · have HNO : Hid (¬ (inZ xs ≤ 1408 ∧ encI NM (inZ xs) (inL xs (inK xs)) = xs)) := fun h => hz (by rw [← HZ.out]; exact h.1)
        have HBW : Hid (Below w.heap.size w wr) := HD.out.bel
        rcases hguard with hg | ⟨hg, hg'⟩
        all_goals
          go_wp2
          refine bodyPost_ret (v := .agg #[.bool false, .string ⟨#[]⟩, .int .i64 0, .slice none 0 0]) (by simp [results, Tryd.results4, go_sem, y0, y1, y2, y3]) rfl ?_
          exact HBAD.out _ HBW.out HNO.out _ _ _ _
      · have hK2 : inK xs ≤ 22 := by unfold inK; rw [HZ.out]; omega
        have HKI : Hid (nblk Z = ((inK xs : Nat) : Int)) := by show _ = _; unfold nblk inK; rw [HZ.out]; omega
        obtain ⟨k, hkk⟩ : ∃ k, inK xs = k := ⟨_, rfl⟩
        have HKK : Hid (inK xs = k) := hkk
        rw [hkk] at hK2 HKI
        clear hkk
        have HD0 : Hid (∃ ad cc, Dsi w wr xs L NM Z ad 0 cc) := ⟨_, _, HD.out⟩
        clear HD
        rcases hguard with hg | ⟨hg, hg'⟩
        all_goals
          go_wp2
          go_loopw [5] (fun q wq => ∃ j : Nat, j ≤ k ∧ q = .int .i64 j ∧ Hid (∃ ad cc, Dsi w wq xs L NM Z ad j cc)) (fun q _ => k - (intOf q).toNat)
          case atStart => exact ⟨0, Nat.zero_le _, rfl, HD0⟩
          case round =>
            clear HD0 v0 v1 v2 g0 g1 g2 y0 y1 y2 y3 f0 f1 f2 f3 c1
            obtain ⟨j, hj, rfl, HR⟩ := hrel
            obtain ⟨ad, cc, hR⟩ := HR.out
            have HX : Hid (Dsi w wr xs L NM Z ad j cc) := hR
            obtain ⟨⟨v0, v1, v2⟩, g0, g1, g2⟩ := three_of hR.var
            obtain ⟨⟨y0, y1, y2, y3⟩, f0, f1, f2, f3⟩ := four_ofS hR.res
            have hLq := (Array.getElem?_eq_some_iff.1 hR.var).1
            have hRq := (Array.getElem?_eq_some_iff.1 hR.res).1
            have HBQ : Hid (Below w.heap.size w wr) := hR.bel
            clear hR HR
            go_wp2_with fail
            refine (l2Blocks_any Z _ z0 hz).mono ?_
            rintro e w3 ⟨rfl, rfl⟩
            rw [HKI.out]
            by_cases hlt : j < k
            · have HRJ : Hid (IRow .u8 w3.drew (some ⟨g, off + (18 + 2 * j), none⟩) 2 ((xs.drop (18 + 2 * j)).take 2)) := irow_takeN 2 (by omega) (irow_drop (18 + 2 * j) (by omega) (HA.out.1.below HBQ.out.drew))
              have hown4 : w3.drew.ownsRow w.heap.size 2 1 (.slice ad j cc) j (i64G (inL xs j)) := HX.out.drew.own
              have hz4 : w.heap.size ≤ w3.drew.heap.size := by have := HBQ.out.size; exact this
              have t1 : (18 + 2 * (j : Int)).toNat = 18 + 2 * j := by omega
              have t2 : (20 + 2 * (j : Int)).toNat = 20 + 2 * j := by omega
              have s1 : 0 ≤ 20 + 2 * (j : Int) := by omega
              have s2 : 20 + 2 * (j : Int) ≤ (c : Int) := by omega
              have s3 : 0 ≤ 18 + 2 * (j : Int) := by omega
              have s4 : ¬ c = 18 + 2 * j := by omega
              have s5 : 20 + 2 * j - (18 + 2 * j) = 2 := by omega
              have HX4 : Hid (Dsi w w3.drew xs L NM Z ad j cc) := HX.out.drew
              have v2' : w3.drew.cell? ⟨L, 2, none⟩ = some (.slice ad j cc) := v2
              have hL4 : L < w3.drew.heap.size := hLq
              have v2A : ∀ o, (w3.drew.alloc o).cell? ⟨L, 2, none⟩ = some (.slice ad j cc) := fun o => (World.cell?_alloc_lt _ _ _ (World.block_lt_of_cell? _ _ v2')).trans v2'
              go_wp2
              refine wp_region_held_drew (S := fun _ => True) (by kernel_rfl) trivial (fun _ => ?_)
              generalize w3.drew = W4 at *
              refine wpAnyH_take (i := 0) (v := .pointer (some ⟨L, 2, none⟩)) rfl (by kernel_rfl) (by kernel_rfl) (by kernel_rfl) (fun _ _ _ h => h) (Or.inl ⟨rfl, fun V hV => by go_simp⟩) trivial ?_
              refine wpAnyH_take (i := 2) (v := .slice (some ⟨g, off, none⟩) 64 c) rfl (by kernel_rfl) (by kernel_rfl) (by kernel_rfl) (fun _ _ _ h => h) (Or.inl ⟨rfl, fun V hV => by go_simp⟩) trivial ?_
              refine wpAnyH_take (i := 3) (v := .int .i64 (j : Int)) rfl (by kernel_rfl) (by kernel_rfl) (by kernel_rfl) (fun _ _ _ h => h) (Or.inl ⟨rfl, fun V hV => by go_simp⟩) trivial ?_
              refine wpAnyH_take (i := 4) (v := .int .i64 (2 * (j : Int))) rfl (by kernel_rfl) (by kernel_rfl) (by kernel_rfl) (fun _ _ _ h => h) (Or.inl ⟨rfl, fun V hV => by go_simp; exact wrap_small' _ (by omega) (by omega)⟩) trivial ?_
              refine wpAnyH_take (i := 5) (v := .int .i64 (18 + 2 * (j : Int))) rfl (by kernel_rfl) (by kernel_rfl) (by kernel_rfl) (fun _ _ _ h => h) (Or.inl ⟨rfl, fun V hV => by go_simp; exact wrap_small' _ (by omega) (by omega)⟩) trivial ?_
              refine wpAnyH_take (i := 6) (v := .int .i64 (j : Int)) rfl (by kernel_rfl) (by kernel_rfl) (by kernel_rfl) (fun _ _ _ h => h) (Or.inl ⟨rfl, fun V hV => by go_simp⟩) trivial ?_
              refine wpAnyH_take (i := 7) (v := .int .i64 (2 * (j : Int))) rfl (by kernel_rfl) (by kernel_rfl) (by kernel_rfl) (fun _ _ _ h => h) (Or.inl ⟨rfl, fun V hV => by go_simp; exact wrap_small' _ (by omega) (by omega)⟩) trivial ?_
              refine wpAnyH_take (i := 8) (v := .int .i64 (20 + 2 * (j : Int))) rfl (by kernel_rfl) (by kernel_rfl) (by kernel_rfl) (fun _ _ _ h => h) (Or.inl ⟨rfl, fun V hV => by go_simp; exact wrap_small' _ (by omega) (by omega)⟩) trivial ?_
              refine wpAnyH_take (i := 9) (v := .slice (some ⟨g, off + (18 + 2 * j), none⟩) 2 (c - (18 + 2 * j))) rfl (by kernel_rfl) (by kernel_rfl) (by kernel_rfl) (fun _ _ _ h => h) (Or.inl ⟨rfl, fun V hV => by go_simp⟩) trivial ?_
              refine wpAnyH_ready (rs := [1, 10]) (by kernel_rfl) (by simp) (AllReadyH.cons rfl (fun K hK => ?_) (AllReadyH.cons rfl (fun K hK => ?_) AllReadyH.nil))
              case' refine_1 =>
                go_simp
                refine hK.out _ _ trivial (fun _ => ?_)
                clear hK K
                refine wpAnyH_ready (rs := [10]) (by kernel_rfl) (by simp) (AllReadyH.cons rfl (fun K hK => ?_) AllReadyH.nil)
                go_simp
                refine (l2Number_any (some ⟨g, off + (18 + 2 * j), none⟩) 2 (c - (18 + 2 * j)) ((xs.drop (18 + 2 * j)).take 2) _ HRJ.out (by omega)).mono ?_
                rintro e w4 ⟨rfl, hw4⟩
                subst hw4
                refine hK.out _ _ trivial (fun _ => ?_)
                clear hK K
                obtain ⟨lid, hlid⟩ : ∃ lid, inLid xs j = lid := ⟨_, rfl⟩
                rw [show wrap64 (numI ((xs.drop (18 + 2 * j)).take 2)) = lid from hlid]
                have HLID : Hid (inLid xs j = lid) := hlid
                clear hlid
                refine wpAnyH_ready (rs := [11]) (by kernel_rfl) (by simp) (AllReadyH.cons rfl (fun K hK => ?_) AllReadyH.nil)
                go_simp
                refine hK.out _ _ trivial (fun _ => ?_)
                clear hK K
              case' refine_2 =>
                go_simp
                refine (l2Number_any (some ⟨g, off + (18 + 2 * j), none⟩) 2 (c - (18 + 2 * j)) ((xs.drop (18 + 2 * j)).take 2) _ HRJ.out (by omega)).mono ?_
                rintro e w4 ⟨rfl, hw4⟩
                subst hw4
                refine hK.out _ _ trivial (fun _ => ?_)
                clear hK K
                obtain ⟨lid, hlid⟩ : ∃ lid, inLid xs j = lid := ⟨_, rfl⟩
                rw [show wrap64 (numI ((xs.drop (18 + 2 * j)).take 2)) = lid from hlid]
                have HLID : Hid (inLid xs j = lid) := hlid
                clear hlid
                refine wpAnyH_ready (rs := [1, 11]) (by kernel_rfl) (by simp) (AllReadyH.cons rfl (fun K hK => ?_) (AllReadyH.cons rfl (fun K hK => ?_) AllReadyH.nil))
              case' refine_2.refine_1 =>
                go_simp
                refine hK.out _ _ trivial (fun _ => ?_)
                clear hK K
                refine wpAnyH_ready (rs := [11]) (by kernel_rfl) (by simp) (AllReadyH.cons rfl (fun K hK => ?_) AllReadyH.nil)
                go_simp
                refine hK.out _ _ trivial (fun _ => ?_)
                clear hK K
              case' refine_2.refine_2 =>
                go_simp
                refine hK.out _ _ trivial (fun _ => ?_)
                clear hK K
                refine wpAnyH_ready (rs := [1]) (by kernel_rfl) (by simp) (AllReadyH.cons rfl (fun K hK => ?_) AllReadyH.nil)
                go_simp
                refine hK.out _ _ trivial (fun _ => ?_)
                clear hK K
              all_goals
                refine wpAnyH_ready (rs := [12]) (by kernel_rfl) (by simp) (AllReadyH.cons rfl (fun K hK => ?_) AllReadyH.nil)
                refine gn_wanted rfl (wp_append_own _ (.tmp 47) (.tmp 57) 23 rfl w.heap.size 2 i0 (.int .i64 0) 1 8 Tryd.underlying23 hi0 hz0 hz1 hz2 rfl (by decide) (.slice ad j cc) j (i64G (inL xs j)) rfl (hown4.alloc _) ⟨_, 0, none⟩ 1 1 [.int .i64 lid] rfl rfl one_cell (gn_one _) (by unfold maxLen; omega) (by omega) (by simp; omega) (fun v' w7 hown7 hg7 _ => ?_))
                obtain ⟨a5, c5, rfl, ⟨p1, p2⟩, hR5⟩ := HX4.out.push (v := v') (w5 := w7) (o := .cells #[.int .i64 lid] 2) hg7 (by rw [HLID.out]; exact hown7)
                refine hK.out _ _ trivial (fun _ => ?_)
                have HR5 : Hid (∃ ad cc, Dsi w (w7.setCell ⟨L, 2, none⟩ (.slice a5 (j + 1) c5)) xs L NM Z ad (j + 1) cc) := ⟨_, _, hR5⟩
                clear hK K hg7 hown7 hown4 v2A v2' hR5
                refine wpAnyH_take (i := 13) (v := .pointer (some ⟨L, 2, none⟩)) rfl (by kernel_rfl) (by kernel_rfl) (by kernel_rfl) (fun _ _ _ h => h) (Or.inl ⟨rfl, fun V hV => by go_simp⟩) trivial ?_
                refine wpAnyH_ready (rs := [14]) (by kernel_rfl) (by simp) (AllReadyH.cons rfl (fun K hK => ?_) AllReadyH.nil)
                go_simp
                refine hK.out _ _ trivial (fun _ => ?_)
                refine wpAnyH_done (by kernel_rfl) ?_ _
                clear hK K
                go_wp2
                go_roundw
                case rel => exact ⟨j + 1, by omega, by go_num, HR5⟩
                case measure => simp [intOf]; omega
            · obtain rfl : j = k := by omega
              have hrow : IRow .i64 w3 ad j (inL xs j) := by
                obtain ⟨a9, c9, e9, r9⟩ := gn_row HX.out.own
                injection e9 with e9 _ _
                subst e9
                exact r9.read
              have HROW : Hid (IRow .i64 w3 ad j (inL xs j)) := hrow
              have HNMS : Hid (NM.size ≤ 1048576) := by show _ ≤ _; rw [← HNM.out, strOf_len, List.length_take]; omega
              have HOWN : Hid (w3.ownsRow w.heap.size 2 1 (.slice ad j cc) j (i64G (inL xs j))) := HX.out.own
              have hres3 := HX.out.res
              have HRS : Hid (∀ V, Below w3.heap.size w3 V → V.heap[w.heap.size]? = some (.cells #[.bool false, .string ⟨#[]⟩, .int .i64 0, .slice none 0 0] 27 (0, 0)) ∧ V.heap[L]? = some (.cells #[.string NM, .int .i64 Z, .slice ad j cc] 25 (0, 0))) := fun V hV => ⟨(hV.block _ hRq).trans HX.out.res, (hV.block _ hLq).trans HX.out.var⟩
              have HCX : Hid (∀ V, Below w3.heap.size w3 V → (convert 22 9 (.slice (some ⟨g, off, none⟩) 64 c)).run Tryd.prog V = .ok (.string (strOf xs)) V) := fun V hV => conv_str c (HA.out.1.below (HBQ.out.trans (hV.mono HBQ.out.size))) HA.out.2
              have HEQ : Hid (inL xs (inK xs) = inL xs j) := by show _ = _; rw [HKK.out]
              have hLw' := HX.out.hL
              clear hrow hres3 HX
              go_wp2
              refine wp_region_held_drew (S := fun V => Below w3.heap.size w3 V) (by kernel_rfl) ((Below.refl _ _).drew) (fun hS => ?_)
              refine wpAnyH_take (i := 0) (v := .agg #[.string NM, .int .i64 Z, .slice ad j cc]) rfl (by kernel_rfl) (by kernel_rfl) (by kernel_rfl) (fun _ _ _ h => h) (Or.inl ⟨rfl, fun V hV => by obtain ⟨⟨x0, x1, x2⟩, _⟩ := three_of (HRS.out V hV).2; go_simp⟩) hS ?_
              refine wpAnyH_take (i := 3) (v := .slice (some ⟨g, off, none⟩) 64 c) rfl (by kernel_rfl) (by kernel_rfl) (by kernel_rfl) (fun _ _ _ h => h) (Or.inl ⟨rfl, fun V hV => by go_simp⟩) hS ?_
              refine wpAnyH_take (i := 4) (v := .string (strOf xs)) rfl (by kernel_rfl) (by kernel_rfl) (by kernel_rfl) (fun _ _ _ h => h) (Or.inl ⟨rfl, fun V hV => by have x1 := HCX.out V hV; go_simp⟩) hS ?_
              refine wpAnyH_ready (rs := [1]) (by kernel_rfl) (by simp) (AllReadyH.cons rfl (fun K hK => ?_) AllReadyH.nil)
              go_simp
              refine (encodeInode_spec NM Z ad j cc (inL xs j) _ (HROW.out.below hS) HNMS.out (by omega)).mono ?_
              rintro e V1 ⟨s1, rfl, ho1, hb1⟩
              have hS1 : Below w3.heap.size w3 V1 := hS.trans (hb1.mono hS.size)
              refine hK.out _ _ hS1 (fun _ => ?_)
              clear hK K hS
              have hS := hS1
              clear hS1 hb1
              obtain ⟨a5, c5, rfl, r5⟩ := owns_row ho1
              have hcE := conv_str c5 r5.read (encI_byt NM Z (inL xs j))
              clear ho1 r5
              refine wpAnyH_ready (rs := [2]) (by kernel_rfl) (by simp) (AllReadyH.cons rfl (fun K hK => ?_) AllReadyH.nil)
              go_simp
              refine hK.out _ _ hS (fun _ => ?_)
              clear hK K hcE
              have hse := str_eq HA.out.2 (encI_byt NM Z (inL xs j))
              by_cases he : encI NM Z (inL xs j) = xs
              · have hseq : ((strOf (encI NM Z (inL xs j))).toList == (strOf xs).toList) = true := by rw [hse]; simpa using he
                have HE : Hid (encI NM Z (inL xs j) = xs) := he
                clear hse he
                generalize strOf (encI NM Z (inL xs j)) = SA at *
                generalize strOf xs = SB at *
                refine wpAnyH_ready (rs := [5]) (by kernel_rfl) (by simp) (AllReadyH.cons rfl (fun K hK => ?_) AllReadyH.nil)
                go_simp
                refine hK.out _ _ hS (fun _ => ?_)
                refine wpAnyH_done (by kernel_rfl) ?_ _
                clear hK K hseq
                obtain ⟨⟨y0, y1, y2, y3⟩, f0, f1, f2, f3⟩ := four_ofS (HRS.out _ hS).1
                obtain ⟨⟨v0, v1, v2⟩, g0, g1, g2⟩ := three_of (HRS.out _ hS).2
                have HBV : Hid (Below w.heap.size w V1) := HBQ.out.trans (hS.mono HBQ.out.size)
                have HOF : Hid (∀ u0 u1 u2 u3, ((((V1.setCell ⟨w.heap.size, 0, none⟩ u0).setCell ⟨w.heap.size, 1, none⟩ u1).setCell ⟨w.heap.size, 2, none⟩ u2).setCell ⟨w.heap.size, 3, none⟩ u3).ownsRow w.heap.size 2 1 (.slice ad j cc) j (i64G (inL xs j))) := by
                  intro u0 u1 u2 u3
                  have hb := gn_kept HOWN.out (Kept.of_below hS (fun _ => False)) (fun _ _ h => h)
                  have hn := gn_ne hb (HRS.out _ hS).1 (by decide)
                  have hk : ∀ (W : World) (q : Nat) (u : Value), Kept (fun g => g = w.heap.size) W (W.setCell ⟨w.heap.size, q, none⟩ u) := fun W q u => Kept.setCell W _ u _ rfl
                  have hh : ∀ g, (Value.slice ad j cc).ownBlock = some g → ¬ (g = w.heap.size) := fun g hg e => hn (by rw [← e]; exact hg)
                  exact gn_kept (gn_kept (gn_kept (gn_kept hb (hk _ 0 u0) hh) (hk _ 1 u1) hh) (hk _ 2 u2) hh) (hk _ 3 u3) hh
                have hLneR : L ≠ w.heap.size := by omega
                clear hS
                go_wp2
                refine bodyPost_ret (v := .agg #[.bool true, .string NM, .int .i64 Z, .slice ad j cc]) (by simp [results, Tryd.results4, go_sem, y0, y1, y2, y3]) rfl ?_
                refine ⟨(((HBV.out.setCell (Nat.le_refl _) _).setCell (Nat.le_refl _) _).setCell (Nat.le_refl _) _).setCell (Nat.le_refl _) _, i, hi, HNZ.out, HSTOP.out, .inr ?_⟩
                rw [HNM.out, HZ.out, HKK.out]
                exact ⟨⟨hz, HE.out⟩, ad, cc, rfl, HOF.out _ _ _ _⟩
              · have hseq : ((strOf (encI NM Z (inL xs j))).toList == (strOf xs).toList) = false := by rw [hse]; simpa using he
                have HNO : Hid (¬ (inZ xs ≤ 1408 ∧ encI NM (inZ xs) (inL xs (inK xs)) = xs)) := fun h => he (by rw [← HEQ.out, ← HZ.out]; exact h.2)
                clear hse he
                generalize strOf (encI NM Z (inL xs j)) = SA at *
                generalize strOf xs = SB at *
                refine wpAnyH_ready (rs := [5]) (by kernel_rfl) (by simp) (AllReadyH.cons rfl (fun K hK => ?_) AllReadyH.nil)
                go_simp
                refine hK.out _ _ hS (fun _ => ?_)
                refine wpAnyH_done (by kernel_rfl) ?_ _
                clear hK K hseq
                obtain ⟨⟨y0, y1, y2, y3⟩, f0, f1, f2, f3⟩ := four_ofS (HRS.out _ hS).1
                have HBV : Hid (Below w.heap.size w V1) := HBQ.out.trans (hS.mono HBQ.out.size)
                clear hS
                go_wp2
                refine bodyPost_ret (v := .agg #[.bool false, .string ⟨#[]⟩, .int .i64 0, .slice none 0 0]) (by simp [results, Tryd.results4, go_sem, y0, y1, y2, y3]) rfl ?_
                exact HBAD.out _ HBV.out HNO.out _ _ _ _
end Go.Proofs.YtkkammbfomiofabDoor
