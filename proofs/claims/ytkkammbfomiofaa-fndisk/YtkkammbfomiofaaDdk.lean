/-
  Draws as functions: l1DrawDisk.
-/
import Derived.Test.YtkkammbfomiofaaDdm
namespace Go.Proofs.Ytkkammbfomiofaa
open Go.RowKit
set_option linter.unusedSimpArgs false
set_option linter.unusedVariables false

/-- How many writes the disk in block L holds. -/
def plen (w : World) (L : Nat) : Nat := match w.cell? ⟨L, 1, none⟩ with | some (.slice _ m _) => m | _ => 0
theorem rep_snoc {α : Type} (l : List α) (j : Nat) (x : α) : (l ++ List.replicate j x) ++ [x] = l ++ List.replicate (j + 1) x := by rw [List.replicate_succ', List.append_assoc]
theorem bentF_rest (k : Int) (p : SV × DV) (h0 : ¬ k = 0) (h1 : ¬ k = 1) (h2 : ¬ k = 2) (h3 : ¬ k = 3) (h4 : ¬ k = 4) (h5 : ¬ k = 5) : bentF k p = p := by unfold bentF; rw [if_neg h0, if_neg h1, if_neg h2, if_neg h3, if_neg h4, if_neg h5]
theorem plen_store {w : World} {L : Nat} {x y : Value} {p : Option Addr} {m cp : Nat} {t : TypeId} (h : w.heap[L]? = some (.cells #[x, y] t (0, 0))) : plen (w.setCell ⟨L, 1, none⟩ (.slice p m cp)) L = m := by
  have h1 : (w.setCell ⟨L, 1, none⟩ (.slice p m cp)).heap[L]? = some (.cells #[x, .slice p m cp] t (0, 0)) := by
    simp [World.setCell, Array.getElem?_modify, h]
  unfold plen
  rw [(two_cells h1).2.1]
set_option maxHeartbeats 4000000 in
set_option maxRecDepth 100000 in
theorem l1DrawDisk_any (B N : Nat) (s : SV) (w : World) (h : SrcF w B N s) (hN : N ≤ w.heap.size) :
    Calls Try.prog 33 #[.pointer (some ⟨B, 0, none⟩)] w fun e w' => ∃ T vs a n ca p m cp, e = .returned (.agg #[.slice a n ca, .slice p m cp]) ∧ DAt T w.heap.size w' a n ca p m cp vs s.disk.2.1 s.disk.2.2 ∧ SrcF w' B N s.disk.1 ∧ Kept (fun g => g = B) w w' := by
  have hBl := h.lt
  obtain ⟨wA, hwA⟩ : ∃ wA, w.alloc (Obj.cells #[.slice none 0 0, .slice none 0 0] 33) = wA := ⟨_, rfl⟩
  have bA : Below w.heap.size w wA := by rw [← hwA]; exact (Below.refl _ w).alloc (Nat.le_refl _) _
  have cA : wA.heap[w.heap.size]? = some (.cells #[.slice none 0 0, .slice none 0 0] 33 (0, 0)) := by rw [← hwA]; exact heap_alloc_new w _
  have sA : wA.heap.size = w.heap.size + 1 := by rw [← hwA]; simp
  have HWA : Hid (w.alloc (Obj.cells #[.slice none 0 0, .slice none 0 0] 33) = wA) := hwA
  clear hwA
  go_enter Try.func33, Try.ntmps33
  go_wp2_with fail
  rw [HWA.out]
  refine (l1DrawGood_any B N s _ (h.below bA) (by omega)).mono ?_
  rintro e w1 ⟨T, vs, a, n, ca, p, m, cp, rfl, hA, hs1, hk1⟩
  rw [sA] at hA
  have sw : w.heap.size + 1 ≤ w1.heap.size := by have := hk1.size; omega
  have c1 := (hk1.block _ (by omega) (by omega)).trans cA
  obtain ⟨wD, hwD⟩ : ∃ wD, w1.alloc (.cells #[.slice a n ca, .slice p m cp] 33) = wD := ⟨_, rfl⟩
  have bD : Below w1.heap.size w1 wD := by rw [← hwD]; exact (Below.refl _ w1).alloc (Nat.le_refl _) _
  have hS4 : SrcF wD B N s.good.1 := hs1.below bD
  have hK4 : Kept (fun g => g = B) w wD := ((Kept.of_below bA _).trans hk1).trans (Kept.of_below bD _)
  have hD4 : DCell (w.heap.size + 1) w1.heap.size wD s.good.2 := by rw [← hwD]; exact DCell.new sw hA
  have hR4 : wD.heap[w.heap.size]? = some (.cells #[.slice none 0 0, .slice none 0 0] 33 (0, 0)) := (bD.block _ (by omega)).trans c1
  obtain ⟨L, hL⟩ : ∃ L, w1.heap.size = L := ⟨_, rfl⟩
  rw [hL] at hD4 sw
  clear hs1 hk1 hA c1 bD cA bA sA h
  go_wp2_with fail
  try rw [hL]
  try rw [hwD]
  refine (l1NextF_any B N 30 _ _ hS4 (by omega) (by omega)).mono ?_
  rintro e w2 ⟨rfl, hs2, hk2⟩
  have HRS : Hid (Rst w B N w2 (s.good.1.rest 30)) := (Rst.mk hS4 hK4 hR4 hBl hN).next hk2 hs2
  have HD : Hid (DCell (w.heap.size + 1) L w2 s.good.2) := hD4.kept hk2 (fun g hg => by omega)
  have HE : Hid (s.disk = bentF (s.good.1.next 30) (s.good.1.rest 30, s.good.2)) := rfl
  obtain ⟨k0, k1⟩ := SV.next_range (s := s.good.1) (m := 30) (by omega)
  have hsm := s.good_small
  generalize s.good.1.next 30 = k at *
  generalize s.good.1.rest 30 = s1 at *
  generalize s.good.2 = D at *
  obtain ⟨dl1, dl2⟩ := hsm
  clear hS4 hK4 hD4 hR4 hs2 hk2 hwD hL
  clear T vs
  obtain ⟨sL, T, vs, a, n, ca, p, m, cp, c2, hA⟩ := HD.out
  obtain ⟨d1, d2, d3, d4⟩ := two_cells c2
  obtain ⟨i0, hi, hz0, hz1, hz2⟩ := info_parts info5
  have nl : n ≤ 76800 := by rw [← hA.xlen]; exact dl1
  have ml : m ≤ 400 := by rw [← hA.len, ← wVal_len, hA.val]; exact dl2
  have sz2 : w.heap.size + 1 < w2.heap.size := Nat.lt_of_le_of_lt sL (Array.getElem?_eq_some_iff.1 c2).1
  by_cases e0 : k = 0
  · subst e0
    have HE0 : Hid (s.disk = (s1, (D.1 ++ [1], D.2))) := HE
    have HA : Hid (DAt T (w.heap.size + 1) w2 a n ca p m cp vs D.1 D.2) := hA
    have hdur := hA.dur
    clear hA
    go_wp2_with (at_builtin; refine wpList_append_own_at _ rfl _ _ 22 rfl (w.heap.size + 1) 5 i0 (.int .u8 0) 1 1 Try.underlying22 hi hz0 hz1 hz2 rfl (by decide) _ _ _ rfl (hdur.alloc _) ⟨w2.heap.size, 0, none⟩ 1 1 [.int .u8 1] rfl rfl one_cell (one_u8 _) (by unfold maxLen; omega) (by omega) (by simp; omega) ?_)
    intro v' w3 hown3 hg3 hnil3 hat3
    have bo := (Below.refl _ w2).alloc (Nat.le_refl _) (Obj.cells #[.int .u8 1] 5)
    obtain ⟨T3, a3, ca3, rfl, hA3⟩ := (HA.out.kept (Kept.of_below bo (fun _ => False)) (fun _ h => h.elim)).push1 hg3 hown3 (hat3.imp id (fun e => by rw [e]; simp)) (by omega)
    have hrs3 := (HRS.out.below bo).grown hg3 (fun g hg => by have := (hdur.lt g hg).1; omega)
    have hLd : ¬ (Value.slice a n ca).ownBlock = some L := tag_neD hdur (o := .cells #[.slice a n ca, .slice p m cp] 33 (0, 0)) c2 (fun cur => cells_neD (by decide))
    have c3 := ((hg3.block L (by have := (Array.getElem?_eq_some_iff.1 c2).1; simp; omega) (fun e => hLd e.symm)).trans (bo.block L (Array.getElem?_eq_some_iff.1 c2).1)).trans c2
    obtain ⟨f1, f2, f3, f4⟩ := two_cells c3
    have hD4 := DCell.store0 (D := (D.1 ++ [1], D.2)) sL c3 hA3
    have hrs4 := hrs3.at (L := L) (Kept.setCell w3 ⟨L, 0, none⟩ (.slice a3 (n + 1) ca3) (fun g => g = L) rfl) (by omega)
    obtain ⟨a9, n9, ca9, p9, m9, cp9, ⟨g1, g2⟩, ⟨r1, r2, r3, r4⟩, HF⟩ := disk_end (q := (s1, (D.1 ++ [1], D.2))) hD4 hrs4
    rw [← HE0.out] at HF
    obtain ⟨w4, hw4⟩ : ∃ w4, w3.setCell ⟨L, 0, none⟩ (.slice a3 (n + 1) ca3) = w4 := ⟨_, rfl⟩
    rw [hw4] at g1 g2 r1 r2 r3 r4 HF
    clear hD4 hrs4 hrs3 hA3 hg3 hown3 hat3 hnil3 bo hdur c2 c3 d1 d2 d3 d4
    go_wp2
    refine bodyPost_ret (v := .agg #[.slice a9 n9 ca9, .slice p9 m9 cp9]) (by simp [results, Try.results33, go_sem, r1, r2]) rfl ?_
    obtain ⟨T9, vs9, h9⟩ := HF.out _ _
    exact ⟨T9, vs9, _, _, _, _, _, _, rfl, h9⟩
  by_cases e1 : k = 1
  · subst e1
    have HE0 : Hid (s.disk = (s1, ([], D.2))) := HE
    have bo : Below w2.heap.size w2 (w2.alloc (Obj.cells #[] 5)) := (Below.refl _ w2).alloc (Nat.le_refl _) _
    have hg3 : w2.grownBy (w2.alloc (Obj.cells #[] 5)) none := ⟨rfl, rfl, rfl, by simp, fun k hk _ => bo.block k hk⟩
    obtain ⟨T3, hA3⟩ := hA.newDur hg3 (xs' := []) (World.ownsRow_made w2 #[] 0 (by omega) (Nat.zero_le _) rfl) (by omega)
    have c3 := (bo.block L (Array.getElem?_eq_some_iff.1 c2).1).trans c2
    obtain ⟨f1, f2, f3, f4⟩ := two_cells c3
    have hD4 := DCell.store0 (D := ([], D.2)) sL c3 hA3
    have hrs4 := (HRS.out.below bo).at (L := L) (Kept.setCell _ ⟨L, 0, none⟩ (.slice (some ⟨w2.heap.size, 0, none⟩) 0 0) (fun g => g = L) rfl) (by omega)
    obtain ⟨a9, n9, ca9, p9, m9, cp9, ⟨g1, g2⟩, ⟨r1, r2, r3, r4⟩, HF⟩ := disk_end (q := (s1, ([], D.2))) hD4 hrs4
    rw [← HE0.out] at HF
    obtain ⟨w4, hw4⟩ : ∃ w4, (w2.alloc (Obj.cells #[] 5)).setCell ⟨L, 0, none⟩ (.slice (some ⟨w2.heap.size, 0, none⟩) 0 0) = w4 := ⟨_, rfl⟩
    rw [hw4] at g1 g2 r1 r2 r3 r4 HF
    clear hD4 hrs4 hA3 hg3 bo c3 hA
    go_wp2
    refine bodyPost_ret (v := .agg #[.slice a9 n9 ca9, .slice p9 m9 cp9]) (by simp [results, Try.results33, go_sem, r1, r2]) rfl ?_
    obtain ⟨T9, vs9, h9⟩ := HF.out _ _
    exact ⟨T9, vs9, _, _, _, _, _, _, rfl, h9⟩
  by_cases e2 : k = 2
  · subst e2
    have HE0 : Hid (s.disk = (s1.rest 2, (List.replicate ((1200 + s1.next 2) * 64).toNat 0, D.2))) := HE
    have HA : Hid (DAt T (w.heap.size + 1) w2 a n ca p m cp vs D.1 D.2) := hA
    clear hA
    go_wp2_with fail
    refine (l1NextF_any B N 2 _ _ HRS.out.src (by omega) (by omega)).mono ?_
    rintro e w3 ⟨rfl, hs3, hk3⟩
    obtain ⟨y0, y1⟩ := SV.next_range (s := s1) (m := 2) (by omega)
    obtain ⟨Y, hY⟩ : ∃ Y : Nat, s1.next 2 = (Y : Int) := ⟨(s1.next 2).toNat, by omega⟩
    have hrs3 := HRS.out.next hk3 hs3
    have hA3 := HA.out.kept hk3 (fun g hg => by have := HRS.out.hB; omega)
    have c3 := (hk3.block L (Array.getElem?_eq_some_iff.1 c2).1 (by have := HRS.out.hB; omega)).trans c2
    obtain ⟨f1, f2, f3, f4⟩ := two_cells c3
    have z3 := hk3.size
    rw [hY] at y0 y1 HE0 ⊢
    have eN : ((1200 + (Y : Int)) * 64).toNat = (1200 + Y) * 64 := by omega
    rw [eN] at HE0
    have HS3 := Hid.out hrs3
    have HA3 : Hid (DAt _ (w.heap.size + 1) w3 a n ca p m cp vs D.1 D.2) := hA3
    clear hs3 hk3 hrs3 hA3 c2 d1 d2 d3 d4 HA HRS HD hY
    go_wp2_with (at_make; refine wpList_make_full _ rfl _ _ 22 rfl (w.heap.size + 1) 5 i0 (.int .u8 0) 1 Try.underlying22 hi hz0 hz1 .i64 .i64 _ _ ((1200 + Y) * 64) rfl rfl (by omega) (by omega) ?c1 ?c2 ?c3 ?_)
    case c1 => rw [hz2]; omega
    case c2 => unfold maxLen; omega
    case c3 => omega
    intro w4 hown4 hg4
    have r : Row .u8 (fun g => g = w3.heap.size) w4 (some ⟨w3.heap.size, 0, none⟩) ((1200 + Y) * 64) (List.replicate ((1200 + Y) * 64) 0) := (made_cells hown4).row rfl (by simp) (by intro i _; exact zeros_at _ _)
    obtain ⟨T4, hA4⟩ := HA3.out.newDur hg4 (Roomy.row ⟨_, hown4⟩ r) (by omega)
    have hrs4 := HS3.grown hg4 (fun g hg => by cases hg)
    have c4 := (hg4.block L (Array.getElem?_eq_some_iff.1 c3).1 (by simp)).trans c3
    obtain ⟨p1, p2, p3, p4⟩ := two_cells c4
    have hD5 := DCell.store0 (D := (List.replicate ((1200 + Y) * 64) 0, D.2)) sL c4 hA4
    have hrs5 := hrs4.at (L := L) (Kept.setCell w4 ⟨L, 0, none⟩ (.slice (some ⟨w3.heap.size, 0, none⟩) ((1200 + Y) * 64) ((1200 + Y) * 64)) (fun g => g = L) rfl) (by omega)
    obtain ⟨a9, n9, ca9, p9, m9, cp9, ⟨g1, g2⟩, ⟨r1, r2, r3, r4⟩, HF⟩ := disk_end (q := (s1.rest 2, (List.replicate ((1200 + Y) * 64) 0, D.2))) hD5 hrs5
    rw [← HE0.out] at HF
    obtain ⟨w5, hw5⟩ : ∃ w5, w4.setCell ⟨L, 0, none⟩ (.slice (some ⟨w3.heap.size, 0, none⟩) ((1200 + Y) * 64) ((1200 + Y) * 64)) = w5 := ⟨_, rfl⟩
    rw [hw5] at g1 g2 r1 r2 r3 r4 HF
    clear hD5 hrs5 hrs4 hA4 hg4 hown4 r c3 c4 f1 f2 f3 f4 HS3 HA3
    go_wp2
    refine bodyPost_ret (v := .agg #[.slice a9 n9 ca9, .slice p9 m9 cp9]) (by simp [results, Try.results33, go_sem, r1, r2]) rfl ?_
    obtain ⟨T9, vs9, h9⟩ := HF.out _ _
    exact ⟨T9, vs9, _, _, _, _, _, _, rfl, h9⟩
  by_cases e3 : k = 3
  · subst e3
    have HE0 : Hid (s.disk = ((s1.rest 2).rest 3, (D.1, D.2 ++ [(s1.next 2 * 9, List.replicate (63 + (s1.rest 2).next 3).toNat 0)]))) := HE
    have HA : Hid (DAt T (w.heap.size + 1) w2 a n ca p m cp vs D.1 D.2) := hA
    obtain ⟨iw, hiw, hw0, hw1, hw2⟩ := info_parts infoWr
    obtain ⟨y0, y1⟩ := SV.next_range (s := s1) (m := 2) (by omega)
    obtain ⟨z0, z1⟩ := SV.next_range (s := s1.rest 2) (m := 3) (by omega)
    obtain ⟨Z, hZ⟩ : ∃ Z : Nat, (s1.rest 2).next 3 = (Z : Int) := ⟨((s1.rest 2).next 3).toNat, by omega⟩
    have wy : IntKind.i64.wrap (s1.next 2 * 9) = s1.next 2 * 9 := wrap_small _ (by omega) (by omega)
    have wz : IntKind.i64.wrap (63 + (s1.rest 2).next 3) = ((63 + Z : Nat) : Int) := by rw [wrap_small _ (by omega) (by omega), hZ]; push_cast; rfl
    have eZ : (63 + (s1.rest 2).next 3).toNat = 63 + Z := by omega
    rw [eZ] at HE0
    have Z3 : Z < 3 := by omega
    clear hA eZ hZ
    have HR0 : Hid (Rst w B N w2.drew s1) := HRS.out.below ((Below.refl _ w2).drew)
    have HA0 : Hid (DAt _ (w.heap.size + 1) w2.drew a n ca p m cp vs D.1 D.2) := HA.out.kept (Kept.drew w2 (fun _ => False)) (fun _ h => h.elim)
    have c0 : w2.drew.heap[L]? = some (.cells #[.slice a n ca, .slice p m cp] 33 (0, 0)) := c2
    go_wp2
    refine wp_region_held_drew (S := fun _ => True) (by kernel_rfl) trivial (fun _ => ?_)
    refine wpAnyH_take (i := 0) (v := .pointer (some ⟨L, 1, none⟩)) rfl (by kernel_rfl) (by kernel_rfl) (by kernel_rfl) (fun _ _ _ h => h) (Or.inl ⟨rfl, fun V hV => by go_simp⟩) trivial ?_
    refine wpAnyH_take (i := 2) (v := .pointer (some ⟨B, 0, none⟩)) rfl (by kernel_rfl) (by kernel_rfl) (by kernel_rfl) (fun _ _ _ h => h) (Or.inl ⟨rfl, fun V hV => by go_simp⟩) trivial ?_
    refine wpAnyH_take (i := 5) (v := .pointer (some ⟨B, 0, none⟩)) rfl (by kernel_rfl) (by kernel_rfl) (by kernel_rfl) (fun _ _ _ h => h) (Or.inl ⟨rfl, fun V hV => by go_simp⟩) trivial ?_
    refine wpAnyH_ready (rs := [1, 3]) (by kernel_rfl) (by simp) (AllReadyH.cons rfl (fun K hK => ?_) (AllReadyH.cons rfl (fun K hK => ?_) AllReadyH.nil))
    case' refine_1 =>
      go_simp
      refine hK.out _ _ trivial (fun _ => ?_)
      clear hK K
      refine wpAnyH_ready (rs := [3]) (by kernel_rfl) (by simp) (AllReadyH.cons rfl (fun K hK => ?_) AllReadyH.nil)
      go_simp
      refine (l1NextF_any B N 2 s1 _ HR0.out.src (by omega) (by omega)).mono ?_
      rintro e W1 ⟨rfl, hsx, hkx⟩
      refine hK.out _ _ trivial (fun _ => ?_)
      clear hK K
      have HR1 : Hid (Rst w B N W1 (s1.rest 2)) := HR0.out.next hkx hsx
      have HA1 : Hid (DAt _ (w.heap.size + 1) W1 a n ca p m cp vs D.1 D.2) := HA0.out.kept hkx (fun g hg => by have := HRS.out.hB; omega)
      have c1 : W1.heap[L]? = some (.cells #[.slice a n ca, .slice p m cp] 33 (0, 0)) := (hkx.block L (Array.getElem?_eq_some_iff.1 c0).1 (by have := HRS.out.hB; omega)).trans c0
      clear hsx hkx HR0 HA0 c0 d1 d2 d3 d4
      obtain ⟨d1, d2, d3, d4⟩ := two_cells c1
      refine wpAnyH_take (i := 4) (v := .int .i64 (s1.next 2 * 9)) rfl (by kernel_rfl) (by kernel_rfl) (by kernel_rfl) (fun _ _ _ h => h) (Or.inl ⟨rfl, fun V hV => by go_simp⟩) trivial ?_
      refine wpAnyH_ready (rs := [6]) (by kernel_rfl) (by simp) (AllReadyH.cons rfl (fun K hK => ?_) AllReadyH.nil)
      go_simp
      refine (l1NextF_any B N 3 (s1.rest 2) _ HR1.out.src (by omega) (by omega)).mono ?_
      rintro e W2 ⟨rfl, hsx, hkx⟩
      refine hK.out _ _ trivial (fun _ => ?_)
      clear hK K
      have HR2 : Hid (Rst w B N W2 ((s1.rest 2).rest 3)) := HR1.out.next hkx hsx
      have HA2 : Hid (DAt _ (w.heap.size + 1) W2 a n ca p m cp vs D.1 D.2) := HA1.out.kept hkx (fun g hg => by have := HRS.out.hB; omega)
      have c2 : W2.heap[L]? = some (.cells #[.slice a n ca, .slice p m cp] 33 (0, 0)) := (hkx.block L (Array.getElem?_eq_some_iff.1 c1).1 (by have := HRS.out.hB; omega)).trans c1
      clear hsx hkx HR1 HA1 c1 d1 d2 d3 d4
      obtain ⟨d1, d2, d3, d4⟩ := two_cells c2
      refine wpAnyH_take (i := 7) (v := .int .i64 ((63 + Z : Nat) : Int)) rfl (by kernel_rfl) (by kernel_rfl) (by kernel_rfl) (fun _ _ _ h => h) (Or.inl ⟨rfl, fun V hV => by go_simp⟩) trivial ?_
      refine wpAnyH_ready (rs := [8]) (by kernel_rfl) (by simp) (AllReadyH.cons rfl (fun K hK => ?_) AllReadyH.nil)
      have hzz : w.heap.size + 1 ≤ W2.heap.size := by have := (Array.getElem?_eq_some_iff.1 c2).1; omega
      refine if_wanted rfl (wp_make1 _ (.tmp 38) (.tmp 38) 22 rfl (w.heap.size + 1) 5 i0 (.int .u8 0) 1 Try.underlying22 hi hz0 hz1 (63 + Z) rfl rfl (by rw [hz2]; omega) (by unfold maxLen; omega) hzz (fun W3 howx hgx => ?_))
      refine hK.out _ _ trivial (fun _ => ?_)
      clear hK K
      try simp only [Nat.mul_one] at howx
      have HW3 : Hid (Row .u8 (fun g => g = W2.heap.size) W3 (some ⟨W2.heap.size, 0, none⟩) (63 + Z) (List.replicate (63 + Z) 0)) := (made_cells howx).row rfl (by simp) (by intro i _; exact zeros_at _ _)
      have HB3 : Hid (Below W2.heap.size W2 W3) := Below.of_grown hgx
      have HU3 : Hid (∃ cu, W3.heap[W2.heap.size]? = some (.cells cu 5 (0, 0))) := owns_tag howx (g := W2.heap.size) rfl
      have HR3 : Hid (Rst w B N W3 ((s1.rest 2).rest 3)) := HR2.out.grown hgx (fun g hg => by cases hg)
      have HO3 : Hid (W3.ownsRow (w.heap.size + 1) 43 2 (.slice p m cp) m (wvL vs)) := by
        have h9 := (HA2.out.kept (Kept.of_below HB3.out (fun _ => False)) (fun _ h => h.elim)).pend.row
        rwa [HA2.out.len] at h9
      have c3 : W3.heap[L]? = some (.cells #[.slice a n ca, .slice p m cp] 33 (0, 0)) := (HB3.out.block L (Array.getElem?_eq_some_iff.1 c2).1).trans c2
      have hLl : L < W3.heap.size := (Array.getElem?_eq_some_iff.1 c3).1
      have HZ : Hid (w.heap.size + 1 ≤ W2.heap.size) := hzz
      clear howx hgx HR2 c2 d1 d2 d3 d4 hzz
      obtain ⟨d1, d2, d3, d4⟩ := two_cells c3
      refine wpAnyH_take (i := 9) (v := .agg #[.int .i64 (s1.next 2 * 9), .slice (some ⟨W2.heap.size, 0, none⟩) (63 + Z) (63 + Z)]) rfl (by kernel_rfl) (by kernel_rfl) (by kernel_rfl) (fun _ _ _ h => h) (Or.inl ⟨rfl, fun V hV => by go_simp⟩) trivial ?_
      refine wpAnyH_ready (rs := [10]) (by kernel_rfl) (by simp) (AllReadyH.cons rfl (fun K hK => ?_) AllReadyH.nil)
      go_simp
      refine hK.out _ _ trivial (fun _ => ?_)
      clear hK K
    case' refine_2 =>
      go_simp
      refine (l1NextF_any B N 2 s1 _ HR0.out.src (by omega) (by omega)).mono ?_
      rintro e W1 ⟨rfl, hsx, hkx⟩
      refine hK.out _ _ trivial (fun _ => ?_)
      clear hK K
      have HR1 : Hid (Rst w B N W1 (s1.rest 2)) := HR0.out.next hkx hsx
      have HA1 : Hid (DAt _ (w.heap.size + 1) W1 a n ca p m cp vs D.1 D.2) := HA0.out.kept hkx (fun g hg => by have := HRS.out.hB; omega)
      have c1 : W1.heap[L]? = some (.cells #[.slice a n ca, .slice p m cp] 33 (0, 0)) := (hkx.block L (Array.getElem?_eq_some_iff.1 c0).1 (by have := HRS.out.hB; omega)).trans c0
      clear hsx hkx HR0 HA0 c0 d1 d2 d3 d4
      obtain ⟨d1, d2, d3, d4⟩ := two_cells c1
      refine wpAnyH_take (i := 4) (v := .int .i64 (s1.next 2 * 9)) rfl (by kernel_rfl) (by kernel_rfl) (by kernel_rfl) (fun _ _ _ h => h) (Or.inl ⟨rfl, fun V hV => by go_simp⟩) trivial ?_
      refine wpAnyH_ready (rs := [1, 6]) (by kernel_rfl) (by simp) (AllReadyH.cons rfl (fun K hK => ?_) (AllReadyH.cons rfl (fun K hK => ?_) AllReadyH.nil))
    case' refine_2.refine_1 =>
      go_simp
      refine hK.out _ _ trivial (fun _ => ?_)
      clear hK K
      refine wpAnyH_ready (rs := [6]) (by kernel_rfl) (by simp) (AllReadyH.cons rfl (fun K hK => ?_) AllReadyH.nil)
      go_simp
      refine (l1NextF_any B N 3 (s1.rest 2) _ HR1.out.src (by omega) (by omega)).mono ?_
      rintro e W2 ⟨rfl, hsx, hkx⟩
      refine hK.out _ _ trivial (fun _ => ?_)
      clear hK K
      have HR2 : Hid (Rst w B N W2 ((s1.rest 2).rest 3)) := HR1.out.next hkx hsx
      have HA2 : Hid (DAt _ (w.heap.size + 1) W2 a n ca p m cp vs D.1 D.2) := HA1.out.kept hkx (fun g hg => by have := HRS.out.hB; omega)
      have c2 : W2.heap[L]? = some (.cells #[.slice a n ca, .slice p m cp] 33 (0, 0)) := (hkx.block L (Array.getElem?_eq_some_iff.1 c1).1 (by have := HRS.out.hB; omega)).trans c1
      clear hsx hkx HR1 HA1 c1 d1 d2 d3 d4
      obtain ⟨d1, d2, d3, d4⟩ := two_cells c2
      refine wpAnyH_take (i := 7) (v := .int .i64 ((63 + Z : Nat) : Int)) rfl (by kernel_rfl) (by kernel_rfl) (by kernel_rfl) (fun _ _ _ h => h) (Or.inl ⟨rfl, fun V hV => by go_simp⟩) trivial ?_
      refine wpAnyH_ready (rs := [8]) (by kernel_rfl) (by simp) (AllReadyH.cons rfl (fun K hK => ?_) AllReadyH.nil)
      have hzz : w.heap.size + 1 ≤ W2.heap.size := by have := (Array.getElem?_eq_some_iff.1 c2).1; omega
      refine if_wanted rfl (wp_make1 _ (.tmp 38) (.tmp 38) 22 rfl (w.heap.size + 1) 5 i0 (.int .u8 0) 1 Try.underlying22 hi hz0 hz1 (63 + Z) rfl rfl (by rw [hz2]; omega) (by unfold maxLen; omega) hzz (fun W3 howx hgx => ?_))
      refine hK.out _ _ trivial (fun _ => ?_)
      clear hK K
      try simp only [Nat.mul_one] at howx
      have HW3 : Hid (Row .u8 (fun g => g = W2.heap.size) W3 (some ⟨W2.heap.size, 0, none⟩) (63 + Z) (List.replicate (63 + Z) 0)) := (made_cells howx).row rfl (by simp) (by intro i _; exact zeros_at _ _)
      have HB3 : Hid (Below W2.heap.size W2 W3) := Below.of_grown hgx
      have HU3 : Hid (∃ cu, W3.heap[W2.heap.size]? = some (.cells cu 5 (0, 0))) := owns_tag howx (g := W2.heap.size) rfl
      have HR3 : Hid (Rst w B N W3 ((s1.rest 2).rest 3)) := HR2.out.grown hgx (fun g hg => by cases hg)
      have HO3 : Hid (W3.ownsRow (w.heap.size + 1) 43 2 (.slice p m cp) m (wvL vs)) := by
        have h9 := (HA2.out.kept (Kept.of_below HB3.out (fun _ => False)) (fun _ h => h.elim)).pend.row
        rwa [HA2.out.len] at h9
      have c3 : W3.heap[L]? = some (.cells #[.slice a n ca, .slice p m cp] 33 (0, 0)) := (HB3.out.block L (Array.getElem?_eq_some_iff.1 c2).1).trans c2
      have hLl : L < W3.heap.size := (Array.getElem?_eq_some_iff.1 c3).1
      have HZ : Hid (w.heap.size + 1 ≤ W2.heap.size) := hzz
      clear howx hgx HR2 c2 d1 d2 d3 d4 hzz
      obtain ⟨d1, d2, d3, d4⟩ := two_cells c3
      refine wpAnyH_take (i := 9) (v := .agg #[.int .i64 (s1.next 2 * 9), .slice (some ⟨W2.heap.size, 0, none⟩) (63 + Z) (63 + Z)]) rfl (by kernel_rfl) (by kernel_rfl) (by kernel_rfl) (fun _ _ _ h => h) (Or.inl ⟨rfl, fun V hV => by go_simp⟩) trivial ?_
      refine wpAnyH_ready (rs := [10]) (by kernel_rfl) (by simp) (AllReadyH.cons rfl (fun K hK => ?_) AllReadyH.nil)
      go_simp
      refine hK.out _ _ trivial (fun _ => ?_)
      clear hK K
    case' refine_2.refine_2 =>
      go_simp
      refine (l1NextF_any B N 3 (s1.rest 2) _ HR1.out.src (by omega) (by omega)).mono ?_
      rintro e W2 ⟨rfl, hsx, hkx⟩
      refine hK.out _ _ trivial (fun _ => ?_)
      clear hK K
      have HR2 : Hid (Rst w B N W2 ((s1.rest 2).rest 3)) := HR1.out.next hkx hsx
      have HA2 : Hid (DAt _ (w.heap.size + 1) W2 a n ca p m cp vs D.1 D.2) := HA1.out.kept hkx (fun g hg => by have := HRS.out.hB; omega)
      have c2 : W2.heap[L]? = some (.cells #[.slice a n ca, .slice p m cp] 33 (0, 0)) := (hkx.block L (Array.getElem?_eq_some_iff.1 c1).1 (by have := HRS.out.hB; omega)).trans c1
      clear hsx hkx HR1 HA1 c1 d1 d2 d3 d4
      obtain ⟨d1, d2, d3, d4⟩ := two_cells c2
      refine wpAnyH_take (i := 7) (v := .int .i64 ((63 + Z : Nat) : Int)) rfl (by kernel_rfl) (by kernel_rfl) (by kernel_rfl) (fun _ _ _ h => h) (Or.inl ⟨rfl, fun V hV => by go_simp⟩) trivial ?_
      refine wpAnyH_ready (rs := [1, 8]) (by kernel_rfl) (by simp) (AllReadyH.cons rfl (fun K hK => ?_) (AllReadyH.cons rfl (fun K hK => ?_) AllReadyH.nil))
    case' refine_2.refine_2.refine_1 =>
      go_simp
      refine hK.out _ _ trivial (fun _ => ?_)
      clear hK K
      refine wpAnyH_ready (rs := [8]) (by kernel_rfl) (by simp) (AllReadyH.cons rfl (fun K hK => ?_) AllReadyH.nil)
      have hzz : w.heap.size + 1 ≤ W2.heap.size := by have := (Array.getElem?_eq_some_iff.1 c2).1; omega
      refine if_wanted rfl (wp_make1 _ (.tmp 38) (.tmp 38) 22 rfl (w.heap.size + 1) 5 i0 (.int .u8 0) 1 Try.underlying22 hi hz0 hz1 (63 + Z) rfl rfl (by rw [hz2]; omega) (by unfold maxLen; omega) hzz (fun W3 howx hgx => ?_))
      refine hK.out _ _ trivial (fun _ => ?_)
      clear hK K
      try simp only [Nat.mul_one] at howx
      have HW3 : Hid (Row .u8 (fun g => g = W2.heap.size) W3 (some ⟨W2.heap.size, 0, none⟩) (63 + Z) (List.replicate (63 + Z) 0)) := (made_cells howx).row rfl (by simp) (by intro i _; exact zeros_at _ _)
      have HB3 : Hid (Below W2.heap.size W2 W3) := Below.of_grown hgx
      have HU3 : Hid (∃ cu, W3.heap[W2.heap.size]? = some (.cells cu 5 (0, 0))) := owns_tag howx (g := W2.heap.size) rfl
      have HR3 : Hid (Rst w B N W3 ((s1.rest 2).rest 3)) := HR2.out.grown hgx (fun g hg => by cases hg)
      have HO3 : Hid (W3.ownsRow (w.heap.size + 1) 43 2 (.slice p m cp) m (wvL vs)) := by
        have h9 := (HA2.out.kept (Kept.of_below HB3.out (fun _ => False)) (fun _ h => h.elim)).pend.row
        rwa [HA2.out.len] at h9
      have c3 : W3.heap[L]? = some (.cells #[.slice a n ca, .slice p m cp] 33 (0, 0)) := (HB3.out.block L (Array.getElem?_eq_some_iff.1 c2).1).trans c2
      have hLl : L < W3.heap.size := (Array.getElem?_eq_some_iff.1 c3).1
      have HZ : Hid (w.heap.size + 1 ≤ W2.heap.size) := hzz
      clear howx hgx HR2 c2 d1 d2 d3 d4 hzz
      obtain ⟨d1, d2, d3, d4⟩ := two_cells c3
      refine wpAnyH_take (i := 9) (v := .agg #[.int .i64 (s1.next 2 * 9), .slice (some ⟨W2.heap.size, 0, none⟩) (63 + Z) (63 + Z)]) rfl (by kernel_rfl) (by kernel_rfl) (by kernel_rfl) (fun _ _ _ h => h) (Or.inl ⟨rfl, fun V hV => by go_simp⟩) trivial ?_
      refine wpAnyH_ready (rs := [10]) (by kernel_rfl) (by simp) (AllReadyH.cons rfl (fun K hK => ?_) AllReadyH.nil)
      go_simp
      refine hK.out _ _ trivial (fun _ => ?_)
      clear hK K
    case' refine_2.refine_2.refine_2 =>
      have hzz : w.heap.size + 1 ≤ W2.heap.size := by have := (Array.getElem?_eq_some_iff.1 c2).1; omega
      refine if_wanted rfl (wp_make1 _ (.tmp 38) (.tmp 38) 22 rfl (w.heap.size + 1) 5 i0 (.int .u8 0) 1 Try.underlying22 hi hz0 hz1 (63 + Z) rfl rfl (by rw [hz2]; omega) (by unfold maxLen; omega) hzz (fun W3 howx hgx => ?_))
      refine hK.out _ _ trivial (fun _ => ?_)
      clear hK K
      try simp only [Nat.mul_one] at howx
      have HW3 : Hid (Row .u8 (fun g => g = W2.heap.size) W3 (some ⟨W2.heap.size, 0, none⟩) (63 + Z) (List.replicate (63 + Z) 0)) := (made_cells howx).row rfl (by simp) (by intro i _; exact zeros_at _ _)
      have HB3 : Hid (Below W2.heap.size W2 W3) := Below.of_grown hgx
      have HU3 : Hid (∃ cu, W3.heap[W2.heap.size]? = some (.cells cu 5 (0, 0))) := owns_tag howx (g := W2.heap.size) rfl
      have HR3 : Hid (Rst w B N W3 ((s1.rest 2).rest 3)) := HR2.out.grown hgx (fun g hg => by cases hg)
      have HO3 : Hid (W3.ownsRow (w.heap.size + 1) 43 2 (.slice p m cp) m (wvL vs)) := by
        have h9 := (HA2.out.kept (Kept.of_below HB3.out (fun _ => False)) (fun _ h => h.elim)).pend.row
        rwa [HA2.out.len] at h9
      have c3 : W3.heap[L]? = some (.cells #[.slice a n ca, .slice p m cp] 33 (0, 0)) := (HB3.out.block L (Array.getElem?_eq_some_iff.1 c2).1).trans c2
      have hLl : L < W3.heap.size := (Array.getElem?_eq_some_iff.1 c3).1
      have HZ : Hid (w.heap.size + 1 ≤ W2.heap.size) := hzz
      clear howx hgx HR2 c2 d1 d2 d3 d4 hzz
      obtain ⟨d1, d2, d3, d4⟩ := two_cells c3
      refine wpAnyH_take (i := 9) (v := .agg #[.int .i64 (s1.next 2 * 9), .slice (some ⟨W2.heap.size, 0, none⟩) (63 + Z) (63 + Z)]) rfl (by kernel_rfl) (by kernel_rfl) (by kernel_rfl) (fun _ _ _ h => h) (Or.inl ⟨rfl, fun V hV => by go_simp⟩) trivial ?_
      refine wpAnyH_ready (rs := [1, 10]) (by kernel_rfl) (by simp) (AllReadyH.cons rfl (fun K hK => ?_) (AllReadyH.cons rfl (fun K hK => ?_) AllReadyH.nil))
    case' refine_2.refine_2.refine_2.refine_1 =>
      go_simp
      refine hK.out _ _ trivial (fun _ => ?_)
      clear hK K
      refine wpAnyH_ready (rs := [10]) (by kernel_rfl) (by simp) (AllReadyH.cons rfl (fun K hK => ?_) AllReadyH.nil)
      go_simp
      refine hK.out _ _ trivial (fun _ => ?_)
      clear hK K
    case' refine_2.refine_2.refine_2.refine_2 =>
      go_simp
      refine hK.out _ _ trivial (fun _ => ?_)
      clear hK K
      refine wpAnyH_ready (rs := [1]) (by kernel_rfl) (by simp) (AllReadyH.cons rfl (fun K hK => ?_) AllReadyH.nil)
      go_simp
      refine hK.out _ _ trivial (fun _ => ?_)
      clear hK K
    all_goals
      refine wpAnyH_ready (rs := [11]) (by kernel_rfl) (by simp) (AllReadyH.cons rfl (fun K hK => ?_) AllReadyH.nil)
      refine if_wanted rfl (wp_append_own _ (.tmp 32) (.tmp 41) 31 rfl (w.heap.size + 1) 43 iw (.agg #[.int .i64 0, .slice none 0 0]) 2 32 Try.underlying31 hiw hw0 hw1 hw2 rfl (by decide) (.slice p m cp) m (wvL vs) rfl (HO3.out.alloc _) ⟨W3.heap.size, 0, none⟩ 1 1 [.int .i64 (s1.next 2 * 9), .slice (some ⟨W2.heap.size, 0, none⟩) (63 + Z) (63 + Z)] rfl rfl (two_new W3 _ _ _) (two_one _ _) (by unfold maxLen; omega) (by omega) (by have := (Array.getElem?_eq_some_iff.1 c3).1; simp; omega) (fun v' w7 hown7 hg7 _ => ?_))
      refine hK.out _ _ trivial (fun _ => ?_)
      clear hK K
      obtain ⟨cu, hcu⟩ := HU3.out
      obtain ⟨T7, p7, cp7, rfl, hA7⟩ := HA2.out.pushW HB3.out (Nat.le_refl _) HZ.out HW3.out (by omega) hcu hg7 hown7 (by omega)
      have hr7 := (HR3.out.below ((Below.refl _ W3).alloc (Nat.le_refl _) _)).grown hg7 (fun g hg => by have := (HO3.out.lt g hg).1; omega)
      have hLd : ¬ (Value.slice p m cp).ownBlock = some L := tag_neD HO3.out (o := .cells #[.slice a n ca, .slice p m cp] 33 (0, 0)) c3 (fun cur => cells_neD (by decide))
      have c7 := ((hg7.block L (by have := (Array.getElem?_eq_some_iff.1 c3).1; simp; omega) (fun e => hLd e.symm)).trans (((Below.refl _ W3).alloc (Nat.le_refl _) _).block L (Array.getElem?_eq_some_iff.1 c3).1)).trans c3
      obtain ⟨f1, f2, f3, f4⟩ := two_cells c7
      have hD8 := DCell.store1 (D := (D.1, D.2 ++ [(s1.next 2 * 9, List.replicate (63 + Z) 0)])) sL c7 hA7
      have hr8 := hr7.at (L := L) (Kept.setCell w7 ⟨L, 1, none⟩ (.slice p7 (m + 1) cp7) (fun g => g = L) rfl) (by omega)
      obtain ⟨a9, n9, ca9, p9, m9, cp9, ⟨g1, g2⟩, ⟨r1, r2, r3, r4⟩, HF⟩ := disk_end (q := ((s1.rest 2).rest 3, (D.1, D.2 ++ [(s1.next 2 * 9, List.replicate (63 + Z) 0)]))) hD8 hr8
      rw [← HE0.out] at HF
      obtain ⟨w8, hw8⟩ : ∃ w8, w7.setCell ⟨L, 1, none⟩ (.slice p7 (m + 1) cp7) = w8 := ⟨_, rfl⟩
      rw [hw8] at g1 g2 r1 r2 r3 r4 HF
      clear hD8 hr8 hr7 hA7 hg7 hown7 hcu c7 d1 d2 d3 d4
      refine wpAnyH_take (i := 12) (v := .pointer (some ⟨L, 1, none⟩)) rfl (by kernel_rfl) (by kernel_rfl) (by kernel_rfl) (fun _ _ _ h => h) (Or.inl ⟨rfl, fun V hV => by go_simp⟩) trivial ?_
      refine wpAnyH_ready (rs := [13]) (by kernel_rfl) (by simp) (AllReadyH.cons rfl (fun K hK => ?_) AllReadyH.nil)
      go_simp
      refine hK.out _ _ trivial (fun _ => ?_)
      refine wpAnyH_done (by kernel_rfl) ?_ _
      clear hK K
      go_wp2
      refine bodyPost_ret (v := .agg #[.slice a9 n9 ca9, .slice p9 m9 cp9]) (by simp [results, Try.results33, go_sem, r1, r2]) rfl ?_
      obtain ⟨T9, vs9, h9⟩ := HF.out _ _
      exact ⟨T9, vs9, _, _, _, _, _, _, rfl, h9⟩
  by_cases e4 : k = 4
  · subst e4
    have HE0 : Hid (s.disk = (s1, (D.1, D.2 ++ [(-1, List.replicate 64 0)]))) := HE
    have HA : Hid (DAt T (w.heap.size + 1) w2 a n ca p m cp vs D.1 D.2) := hA
    obtain ⟨iw, hiw, hw0, hw1, hw2⟩ := info_parts infoWr
    clear hA
    have HR0 : Hid (Rst w B N w2.drew s1) := HRS.out.below ((Below.refl _ w2).drew)
    have HA0 : Hid (DAt _ (w.heap.size + 1) w2.drew a n ca p m cp vs D.1 D.2) := HA.out.kept (Kept.drew w2 (fun _ => False)) (fun _ h => h.elim)
    have c0 : w2.drew.heap[L]? = some (.cells #[.slice a n ca, .slice p m cp] 33 (0, 0)) := c2
    go_wp2
    refine wp_region_held_drew (S := fun _ => True) (by kernel_rfl) trivial (fun _ => ?_)
    refine wpAnyH_take (i := 0) (v := .pointer (some ⟨L, 1, none⟩)) rfl (by kernel_rfl) (by kernel_rfl) (by kernel_rfl) (fun _ _ _ h => h) (Or.inl ⟨rfl, fun V hV => by go_simp⟩) trivial ?_
    refine wpAnyH_ready (rs := [1, 2]) (by kernel_rfl) (by simp) (AllReadyH.cons rfl (fun K hK => ?_) (AllReadyH.cons rfl (fun K hK => ?_) AllReadyH.nil))
    case' refine_1 =>
      go_simp
      refine hK.out _ _ trivial (fun _ => ?_)
      clear hK K
      refine wpAnyH_ready (rs := [2]) (by kernel_rfl) (by simp) (AllReadyH.cons rfl (fun K hK => ?_) AllReadyH.nil)
      have hzz : w.heap.size + 1 ≤ w2.drew.heap.size := by have := (Array.getElem?_eq_some_iff.1 c0).1; omega
      refine if_wanted rfl (wp_make1 _ (.const (.int .i64 64)) (.const (.int .i64 64)) 22 rfl (w.heap.size + 1) 5 i0 (.int .u8 0) 1 Try.underlying22 hi hz0 hz1 (64) rfl rfl (by rw [hz2]; omega) (by unfold maxLen; omega) hzz (fun W1 howx hgx => ?_))
      refine hK.out _ _ trivial (fun _ => ?_)
      clear hK K
      try simp only [Nat.mul_one] at howx
      have HW1 : Hid (Row .u8 (fun g => g = w2.drew.heap.size) W1 (some ⟨w2.drew.heap.size, 0, none⟩) (64) (List.replicate (64) 0)) := (made_cells howx).row rfl (by simp) (by intro i _; exact zeros_at _ _)
      have HB1 : Hid (Below w2.drew.heap.size w2.drew W1) := Below.of_grown hgx
      have HU1 : Hid (∃ cu, W1.heap[w2.drew.heap.size]? = some (.cells cu 5 (0, 0))) := owns_tag howx (g := w2.drew.heap.size) rfl
      have HR1 : Hid (Rst w B N W1 s1) := HR0.out.grown hgx (fun g hg => by cases hg)
      have HO1 : Hid (W1.ownsRow (w.heap.size + 1) 43 2 (.slice p m cp) m (wvL vs)) := by
        have h9 := (HA0.out.kept (Kept.of_below HB1.out (fun _ => False)) (fun _ h => h.elim)).pend.row
        rwa [HA0.out.len] at h9
      have c1 : W1.heap[L]? = some (.cells #[.slice a n ca, .slice p m cp] 33 (0, 0)) := (HB1.out.block L (Array.getElem?_eq_some_iff.1 c0).1).trans c0
      have hLl : L < W1.heap.size := (Array.getElem?_eq_some_iff.1 c1).1
      have HZ : Hid (w.heap.size + 1 ≤ w2.drew.heap.size) := hzz
      clear howx hgx HR0 c0 d1 d2 d3 d4 hzz
      obtain ⟨d1, d2, d3, d4⟩ := two_cells c1
      refine wpAnyH_take (i := 3) (v := .agg #[.int .i64 (-1), .slice (some ⟨w2.drew.heap.size, 0, none⟩) 64 64]) rfl (by kernel_rfl) (by kernel_rfl) (by kernel_rfl) (fun _ _ _ h => h) (Or.inl ⟨rfl, fun V hV => by go_simp⟩) trivial ?_
      refine wpAnyH_ready (rs := [4]) (by kernel_rfl) (by simp) (AllReadyH.cons rfl (fun K hK => ?_) AllReadyH.nil)
      go_simp
      refine hK.out _ _ trivial (fun _ => ?_)
      clear hK K
    case' refine_2 =>
      have hzz : w.heap.size + 1 ≤ w2.drew.heap.size := by have := (Array.getElem?_eq_some_iff.1 c0).1; omega
      refine if_wanted rfl (wp_make1 _ (.const (.int .i64 64)) (.const (.int .i64 64)) 22 rfl (w.heap.size + 1) 5 i0 (.int .u8 0) 1 Try.underlying22 hi hz0 hz1 (64) rfl rfl (by rw [hz2]; omega) (by unfold maxLen; omega) hzz (fun W1 howx hgx => ?_))
      refine hK.out _ _ trivial (fun _ => ?_)
      clear hK K
      try simp only [Nat.mul_one] at howx
      have HW1 : Hid (Row .u8 (fun g => g = w2.drew.heap.size) W1 (some ⟨w2.drew.heap.size, 0, none⟩) (64) (List.replicate (64) 0)) := (made_cells howx).row rfl (by simp) (by intro i _; exact zeros_at _ _)
      have HB1 : Hid (Below w2.drew.heap.size w2.drew W1) := Below.of_grown hgx
      have HU1 : Hid (∃ cu, W1.heap[w2.drew.heap.size]? = some (.cells cu 5 (0, 0))) := owns_tag howx (g := w2.drew.heap.size) rfl
      have HR1 : Hid (Rst w B N W1 s1) := HR0.out.grown hgx (fun g hg => by cases hg)
      have HO1 : Hid (W1.ownsRow (w.heap.size + 1) 43 2 (.slice p m cp) m (wvL vs)) := by
        have h9 := (HA0.out.kept (Kept.of_below HB1.out (fun _ => False)) (fun _ h => h.elim)).pend.row
        rwa [HA0.out.len] at h9
      have c1 : W1.heap[L]? = some (.cells #[.slice a n ca, .slice p m cp] 33 (0, 0)) := (HB1.out.block L (Array.getElem?_eq_some_iff.1 c0).1).trans c0
      have hLl : L < W1.heap.size := (Array.getElem?_eq_some_iff.1 c1).1
      have HZ : Hid (w.heap.size + 1 ≤ w2.drew.heap.size) := hzz
      clear howx hgx HR0 c0 d1 d2 d3 d4 hzz
      obtain ⟨d1, d2, d3, d4⟩ := two_cells c1
      refine wpAnyH_take (i := 3) (v := .agg #[.int .i64 (-1), .slice (some ⟨w2.drew.heap.size, 0, none⟩) 64 64]) rfl (by kernel_rfl) (by kernel_rfl) (by kernel_rfl) (fun _ _ _ h => h) (Or.inl ⟨rfl, fun V hV => by go_simp⟩) trivial ?_
      refine wpAnyH_ready (rs := [1, 4]) (by kernel_rfl) (by simp) (AllReadyH.cons rfl (fun K hK => ?_) (AllReadyH.cons rfl (fun K hK => ?_) AllReadyH.nil))
    case' refine_2.refine_1 =>
      go_simp
      refine hK.out _ _ trivial (fun _ => ?_)
      clear hK K
      refine wpAnyH_ready (rs := [4]) (by kernel_rfl) (by simp) (AllReadyH.cons rfl (fun K hK => ?_) AllReadyH.nil)
      go_simp
      refine hK.out _ _ trivial (fun _ => ?_)
      clear hK K
    case' refine_2.refine_2 =>
      go_simp
      refine hK.out _ _ trivial (fun _ => ?_)
      clear hK K
      refine wpAnyH_ready (rs := [1]) (by kernel_rfl) (by simp) (AllReadyH.cons rfl (fun K hK => ?_) AllReadyH.nil)
      go_simp
      refine hK.out _ _ trivial (fun _ => ?_)
      clear hK K
    all_goals
      refine wpAnyH_ready (rs := [5]) (by kernel_rfl) (by simp) (AllReadyH.cons rfl (fun K hK => ?_) AllReadyH.nil)
      refine if_wanted rfl (wp_append_own _ (.tmp 47) (.tmp 50) 31 rfl (w.heap.size + 1) 43 iw (.agg #[.int .i64 0, .slice none 0 0]) 2 32 Try.underlying31 hiw hw0 hw1 hw2 rfl (by decide) (.slice p m cp) m (wvL vs) rfl (HO1.out.alloc _) ⟨W1.heap.size, 0, none⟩ 1 1 [.int .i64 (-1), .slice (some ⟨w2.drew.heap.size, 0, none⟩) (64) (64)] rfl rfl (two_new W1 _ _ _) (two_one _ _) (by unfold maxLen; omega) (by omega) (by have := (Array.getElem?_eq_some_iff.1 c1).1; simp; omega) (fun v' w7 hown7 hg7 _ => ?_))
      refine hK.out _ _ trivial (fun _ => ?_)
      clear hK K
      obtain ⟨cu, hcu⟩ := HU1.out
      obtain ⟨T7, p7, cp7, rfl, hA7⟩ := HA0.out.pushW HB1.out (Nat.le_refl _) HZ.out HW1.out (by omega) hcu hg7 hown7 (by omega)
      have hr7 := (HR1.out.below ((Below.refl _ W1).alloc (Nat.le_refl _) _)).grown hg7 (fun g hg => by have := (HO1.out.lt g hg).1; omega)
      have hLd : ¬ (Value.slice p m cp).ownBlock = some L := tag_neD HO1.out (o := .cells #[.slice a n ca, .slice p m cp] 33 (0, 0)) c1 (fun cur => cells_neD (by decide))
      have c7 := ((hg7.block L (by have := (Array.getElem?_eq_some_iff.1 c1).1; simp; omega) (fun e => hLd e.symm)).trans (((Below.refl _ W1).alloc (Nat.le_refl _) _).block L (Array.getElem?_eq_some_iff.1 c1).1)).trans c1
      obtain ⟨f1, f2, f3, f4⟩ := two_cells c7
      have hD8 := DCell.store1 (D := (D.1, D.2 ++ [(-1, List.replicate (64) 0)])) sL c7 hA7
      have hr8 := hr7.at (L := L) (Kept.setCell w7 ⟨L, 1, none⟩ (.slice p7 (m + 1) cp7) (fun g => g = L) rfl) (by omega)
      obtain ⟨a9, n9, ca9, p9, m9, cp9, ⟨g1, g2⟩, ⟨r1, r2, r3, r4⟩, HF⟩ := disk_end (q := (s1, (D.1, D.2 ++ [(-1, List.replicate 64 0)]))) hD8 hr8
      rw [← HE0.out] at HF
      obtain ⟨w8, hw8⟩ : ∃ w8, w7.setCell ⟨L, 1, none⟩ (.slice p7 (m + 1) cp7) = w8 := ⟨_, rfl⟩
      rw [hw8] at g1 g2 r1 r2 r3 r4 HF
      clear hD8 hr8 hr7 hA7 hg7 hown7 hcu c7 d1 d2 d3 d4
      refine wpAnyH_take (i := 6) (v := .pointer (some ⟨L, 1, none⟩)) rfl (by kernel_rfl) (by kernel_rfl) (by kernel_rfl) (fun _ _ _ h => h) (Or.inl ⟨rfl, fun V hV => by go_simp⟩) trivial ?_
      refine wpAnyH_ready (rs := [7]) (by kernel_rfl) (by simp) (AllReadyH.cons rfl (fun K hK => ?_) AllReadyH.nil)
      go_simp
      refine hK.out _ _ trivial (fun _ => ?_)
      refine wpAnyH_done (by kernel_rfl) ?_ _
      clear hK K
      go_wp2
      refine bodyPost_ret (v := .agg #[.slice a9 n9 ca9, .slice p9 m9 cp9]) (by simp [results, Try.results33, go_sem, r1, r2]) rfl ?_
      obtain ⟨T9, vs9, h9⟩ := HF.out _ _
      exact ⟨T9, vs9, _, _, _, _, _, _, rfl, h9⟩
  by_cases e5 : k = 5
  · subst e5
    have HE0 : Hid (s.disk = (s1.rest 3, (D.1, D.2 ++ List.replicate ((399 + s1.next 3).toNat - D.2.length) (0, List.replicate 64 0)))) := HE
    obtain ⟨iw, hiw, hw0, hw1, hw2⟩ := info_parts infoWr
    clear hA
    go_wp2_with fail
    refine (l1NextF_any B N 3 _ _ HRS.out.src (by omega) (by omega)).mono ?_
    rintro e w3 ⟨rfl, hs3, hk3⟩
    obtain ⟨y0, y1⟩ := SV.next_range (s := s1) (m := 3) (by omega)
    obtain ⟨Y, hY⟩ : ∃ Y : Nat, s1.next 3 = (Y : Int) := ⟨(s1.next 3).toNat, by omega⟩
    have hrs3 := HRS.out.next hk3 hs3
    have hD3 := HD.out.kept hk3 (fun g hg => by have := HRS.out.hB; omega)
    rw [hY] at y0 y1 HE0 ⊢
    have eN : (399 + (Y : Int)).toNat = 399 + Y := by omega
    rw [eN] at HE0
    have HR3 : Hid (Rst w B N w3 (s1.rest 3)) := hrs3
    have HD3 : Hid (DCell (w.heap.size + 1) L w3 (D.1, D.2 ++ List.replicate 0 (0, List.replicate 64 0))) := by
      show DCell _ _ _ _
      simpa using hD3
    clear hs3 hk3 hrs3 hD3 c2 d1 d2 d3 d4 HRS HD hY
    clear T vs
    go_wp2
    go_loopw [] (fun wr => ∃ j : Nat, (j = 0 ∨ D.2.length + j ≤ 399 + Y) ∧ Hid (DCell (w.heap.size + 1) L wr (D.1, D.2 ++ List.replicate j (0, List.replicate 64 0))) ∧ Hid (Rst w B N wr (s1.rest 3))) (fun wr => 401 - plen wr L)
    case atStart => exact ⟨0, .inl rfl, HD3, HR3⟩
    case round =>
      clear HD3 HR3
      obtain ⟨j, hj, HD, HRS⟩ := hrel
      obtain ⟨_, T, vs, a, n, ca, p, m, cp, c2, hA⟩ := HD.out
      obtain ⟨d1, d2, d3, d4⟩ := two_cells c2
      have ml : m = D.2.length + j := by rw [← hA.len, ← wVal_len, hA.val]; simp
      by_cases hlt : (m : Int) < 399 + (Y : Int)
      · have mlt : m < 399 + Y := by omega
        have ML : Hid (m = D.2.length + j) := ml
        have PL : Hid (plen wr L = m) := by show plen wr L = m; unfold plen; rw [d2]
        have HA : Hid (DAt T (w.heap.size + 1) wr a n ca p m cp vs D.1 (D.2 ++ List.replicate j (0, List.replicate 64 0))) := hA
        clear hA ml HD hj
        have HR0 : Hid (Rst w B N wr.drew (s1.rest 3)) := HRS.out.below ((Below.refl _ wr).drew)
        have HA0 : Hid (DAt _ (w.heap.size + 1) wr.drew a n ca p m cp vs D.1 (D.2 ++ List.replicate j (0, List.replicate 64 0))) := HA.out.kept (Kept.drew wr (fun _ => False)) (fun _ h => h.elim)
        have c0 : wr.drew.heap[L]? = some (.cells #[.slice a n ca, .slice p m cp] 33 (0, 0)) := c2
        go_wp2
        refine wp_region_held_drew (S := fun _ => True) (by kernel_rfl) trivial (fun _ => ?_)
        refine wpAnyH_take (i := 0) (v := .pointer (some ⟨L, 1, none⟩)) rfl (by kernel_rfl) (by kernel_rfl) (by kernel_rfl) (fun _ _ _ h => h) (Or.inl ⟨rfl, fun V hV => by go_simp⟩) trivial ?_
        refine wpAnyH_ready (rs := [1, 2]) (by kernel_rfl) (by simp) (AllReadyH.cons rfl (fun K hK => ?_) (AllReadyH.cons rfl (fun K hK => ?_) AllReadyH.nil))
        case' refine_1 =>
          go_simp
          refine hK.out _ _ trivial (fun _ => ?_)
          clear hK K
          refine wpAnyH_ready (rs := [2]) (by kernel_rfl) (by simp) (AllReadyH.cons rfl (fun K hK => ?_) AllReadyH.nil)
          have hzz : w.heap.size + 1 ≤ wr.drew.heap.size := by have := (Array.getElem?_eq_some_iff.1 c0).1; omega
          refine if_wanted rfl (wp_make1 _ (.const (.int .i64 64)) (.const (.int .i64 64)) 22 rfl (w.heap.size + 1) 5 i0 (.int .u8 0) 1 Try.underlying22 hi hz0 hz1 (64) rfl rfl (by rw [hz2]; omega) (by unfold maxLen; omega) hzz (fun W1 howx hgx => ?_))
          refine hK.out _ _ trivial (fun _ => ?_)
          clear hK K
          try simp only [Nat.mul_one] at howx
          have HW1 : Hid (Row .u8 (fun g => g = wr.drew.heap.size) W1 (some ⟨wr.drew.heap.size, 0, none⟩) (64) (List.replicate (64) 0)) := (made_cells howx).row rfl (by simp) (by intro i _; exact zeros_at _ _)
          have HB1 : Hid (Below wr.drew.heap.size wr.drew W1) := Below.of_grown hgx
          have HU1 : Hid (∃ cu, W1.heap[wr.drew.heap.size]? = some (.cells cu 5 (0, 0))) := owns_tag howx (g := wr.drew.heap.size) rfl
          have HR1 : Hid (Rst w B N W1 (s1.rest 3)) := HR0.out.grown hgx (fun g hg => by cases hg)
          have HO1 : Hid (W1.ownsRow (w.heap.size + 1) 43 2 (.slice p m cp) m (wvL vs)) := by
            have h9 := (HA0.out.kept (Kept.of_below HB1.out (fun _ => False)) (fun _ h => h.elim)).pend.row
            rwa [HA0.out.len] at h9
          have c1 : W1.heap[L]? = some (.cells #[.slice a n ca, .slice p m cp] 33 (0, 0)) := (HB1.out.block L (Array.getElem?_eq_some_iff.1 c0).1).trans c0
          have hLl : L < W1.heap.size := (Array.getElem?_eq_some_iff.1 c1).1
          have HZ : Hid (w.heap.size + 1 ≤ wr.drew.heap.size) := hzz
          clear howx hgx HR0 c0 d1 d2 d3 d4 hzz
          obtain ⟨d1, d2, d3, d4⟩ := two_cells c1
          refine wpAnyH_take (i := 3) (v := .agg #[.int .i64 0, .slice (some ⟨wr.drew.heap.size, 0, none⟩) 64 64]) rfl (by kernel_rfl) (by kernel_rfl) (by kernel_rfl) (fun _ _ _ h => h) (Or.inl ⟨rfl, fun V hV => by go_simp⟩) trivial ?_
          refine wpAnyH_ready (rs := [4]) (by kernel_rfl) (by simp) (AllReadyH.cons rfl (fun K hK => ?_) AllReadyH.nil)
          go_simp
          refine hK.out _ _ trivial (fun _ => ?_)
          clear hK K
        case' refine_2 =>
          have hzz : w.heap.size + 1 ≤ wr.drew.heap.size := by have := (Array.getElem?_eq_some_iff.1 c0).1; omega
          refine if_wanted rfl (wp_make1 _ (.const (.int .i64 64)) (.const (.int .i64 64)) 22 rfl (w.heap.size + 1) 5 i0 (.int .u8 0) 1 Try.underlying22 hi hz0 hz1 (64) rfl rfl (by rw [hz2]; omega) (by unfold maxLen; omega) hzz (fun W1 howx hgx => ?_))
          refine hK.out _ _ trivial (fun _ => ?_)
          clear hK K
          try simp only [Nat.mul_one] at howx
          have HW1 : Hid (Row .u8 (fun g => g = wr.drew.heap.size) W1 (some ⟨wr.drew.heap.size, 0, none⟩) (64) (List.replicate (64) 0)) := (made_cells howx).row rfl (by simp) (by intro i _; exact zeros_at _ _)
          have HB1 : Hid (Below wr.drew.heap.size wr.drew W1) := Below.of_grown hgx
          have HU1 : Hid (∃ cu, W1.heap[wr.drew.heap.size]? = some (.cells cu 5 (0, 0))) := owns_tag howx (g := wr.drew.heap.size) rfl
          have HR1 : Hid (Rst w B N W1 (s1.rest 3)) := HR0.out.grown hgx (fun g hg => by cases hg)
          have HO1 : Hid (W1.ownsRow (w.heap.size + 1) 43 2 (.slice p m cp) m (wvL vs)) := by
            have h9 := (HA0.out.kept (Kept.of_below HB1.out (fun _ => False)) (fun _ h => h.elim)).pend.row
            rwa [HA0.out.len] at h9
          have c1 : W1.heap[L]? = some (.cells #[.slice a n ca, .slice p m cp] 33 (0, 0)) := (HB1.out.block L (Array.getElem?_eq_some_iff.1 c0).1).trans c0
          have hLl : L < W1.heap.size := (Array.getElem?_eq_some_iff.1 c1).1
          have HZ : Hid (w.heap.size + 1 ≤ wr.drew.heap.size) := hzz
          clear howx hgx HR0 c0 d1 d2 d3 d4 hzz
          obtain ⟨d1, d2, d3, d4⟩ := two_cells c1
          refine wpAnyH_take (i := 3) (v := .agg #[.int .i64 0, .slice (some ⟨wr.drew.heap.size, 0, none⟩) 64 64]) rfl (by kernel_rfl) (by kernel_rfl) (by kernel_rfl) (fun _ _ _ h => h) (Or.inl ⟨rfl, fun V hV => by go_simp⟩) trivial ?_
          refine wpAnyH_ready (rs := [1, 4]) (by kernel_rfl) (by simp) (AllReadyH.cons rfl (fun K hK => ?_) (AllReadyH.cons rfl (fun K hK => ?_) AllReadyH.nil))
        case' refine_2.refine_1 =>
          go_simp
          refine hK.out _ _ trivial (fun _ => ?_)
          clear hK K
          refine wpAnyH_ready (rs := [4]) (by kernel_rfl) (by simp) (AllReadyH.cons rfl (fun K hK => ?_) AllReadyH.nil)
          go_simp
          refine hK.out _ _ trivial (fun _ => ?_)
          clear hK K
        case' refine_2.refine_2 =>
          go_simp
          refine hK.out _ _ trivial (fun _ => ?_)
          clear hK K
          refine wpAnyH_ready (rs := [1]) (by kernel_rfl) (by simp) (AllReadyH.cons rfl (fun K hK => ?_) AllReadyH.nil)
          go_simp
          refine hK.out _ _ trivial (fun _ => ?_)
          clear hK K
        all_goals
          refine wpAnyH_ready (rs := [5]) (by kernel_rfl) (by simp) (AllReadyH.cons rfl (fun K hK => ?_) AllReadyH.nil)
          refine if_wanted rfl (wp_append_own _ (.tmp 64) (.tmp 67) 31 rfl (w.heap.size + 1) 43 iw (.agg #[.int .i64 0, .slice none 0 0]) 2 32 Try.underlying31 hiw hw0 hw1 hw2 rfl (by decide) (.slice p m cp) m (wvL vs) rfl (HO1.out.alloc _) ⟨W1.heap.size, 0, none⟩ 1 1 [.int .i64 0, .slice (some ⟨wr.drew.heap.size, 0, none⟩) (64) (64)] rfl rfl (two_new W1 _ _ _) (two_one _ _) (by unfold maxLen; omega) (by omega) (by have := (Array.getElem?_eq_some_iff.1 c1).1; simp; omega) (fun v' w7 hown7 hg7 _ => ?_))
          refine hK.out _ _ trivial (fun _ => ?_)
          clear hK K
          obtain ⟨cu, hcu⟩ := HU1.out
          obtain ⟨T7, p7, cp7, rfl, hA7⟩ := HA0.out.pushW HB1.out (Nat.le_refl _) HZ.out HW1.out (by omega) hcu hg7 hown7 (by omega)
          have hr7 := (HR1.out.below ((Below.refl _ W1).alloc (Nat.le_refl _) _)).grown hg7 (fun g hg => by have := (HO1.out.lt g hg).1; omega)
          have hLd : ¬ (Value.slice p m cp).ownBlock = some L := tag_neD HO1.out (o := .cells #[.slice a n ca, .slice p m cp] 33 (0, 0)) c1 (fun cur => cells_neD (by decide))
          have c7 := ((hg7.block L (by have := (Array.getElem?_eq_some_iff.1 c1).1; simp; omega) (fun e => hLd e.symm)).trans (((Below.refl _ W1).alloc (Nat.le_refl _) _).block L (Array.getElem?_eq_some_iff.1 c1).1)).trans c1
          obtain ⟨f1, f2, f3, f4⟩ := two_cells c7
          have hD8 : DCell (w.heap.size + 1) L _ _ := DCell.store1 (D := (D.1, (D.2 ++ List.replicate j (0, List.replicate 64 0)) ++ [(0, List.replicate 64 0)])) sL c7 hA7
          have hr8 := hr7.at (L := L) (Kept.setCell w7 ⟨L, 1, none⟩ (.slice p7 (m + 1) cp7) (fun g => g = L) rfl) (by omega)
          have hp8 : plen (w7.setCell ⟨L, 1, none⟩ (.slice p7 (m + 1) cp7)) L = m + 1 := plen_store c7
          have eR : (D.2 ++ List.replicate j (0, List.replicate 64 0)) ++ [((0 : Int), List.replicate 64 (0 : Int))] = D.2 ++ List.replicate (j + 1) (0, List.replicate 64 0) := rep_snoc _ _ _
          rw [eR] at hD8
          obtain ⟨w8, hw8⟩ : ∃ w8, w7.setCell ⟨L, 1, none⟩ (.slice p7 (m + 1) cp7) = w8 := ⟨_, rfl⟩
          rw [hw8] at hD8 hr8 hp8
          have HD8 : Hid (DCell (w.heap.size + 1) L w8 (D.1, D.2 ++ List.replicate (j + 1) (0, List.replicate 64 0))) := hD8
          have HR8 : Hid (Rst w B N w8 (s1.rest 3)) := hr8
          have HP8 : Hid (plen w8 L = m + 1) := hp8
          clear hD8 hr8 hr7 hA7 hg7 hown7 hcu c7 d1 d2 d3 d4 eR hp8
          refine wpAnyH_take (i := 6) (v := .pointer (some ⟨L, 1, none⟩)) rfl (by kernel_rfl) (by kernel_rfl) (by kernel_rfl) (fun _ _ _ h => h) (Or.inl ⟨rfl, fun V hV => by go_simp⟩) trivial ?_
          refine wpAnyH_ready (rs := [7]) (by kernel_rfl) (by simp) (AllReadyH.cons rfl (fun K hK => ?_) AllReadyH.nil)
          go_simp
          refine hK.out _ _ trivial (fun _ => ?_)
          refine wpAnyH_done (by kernel_rfl) ?_ _
          clear hK K
          go_wp2
          go_roundw
          case rel => exact ⟨j + 1, .inr (by have := ML.out; omega), HD8, HR8⟩
          case measure =>
            have h1 := HP8.out
            have h2 := PL.out
            show 401 - plen w8 L < 401 - plen wr L
            omega
      · have HE1 : Hid (s.disk = (s1.rest 3, (D.1, D.2 ++ List.replicate j (0, List.replicate 64 0)))) := by
          show _ = _
          rw [HE0.out]
          have : 399 + Y - D.2.length = j := by omega
          rw [this]
        obtain ⟨a9, n9, ca9, p9, m9, cp9, ⟨g1, g2⟩, ⟨r1, r2, r3, r4⟩, HF⟩ := disk_end (q := (s1.rest 3, (D.1, D.2 ++ List.replicate j (0, List.replicate 64 0)))) HD.out HRS.out
        rw [← HE1.out] at HF
        obtain ⟨rfl, rfl, rfl⟩ : a = a9 ∧ n = n9 ∧ ca = ca9 := by have := d1.symm.trans g1; simpa using this
        obtain ⟨rfl, rfl, rfl⟩ : p = p9 ∧ m = m9 ∧ cp = cp9 := by have := d2.symm.trans g2; simpa using this
        clear HD HRS hA ml hj HE0 HE1 HE c2 g1 g2
        go_wp2
        refine bodyPost_ret (v := .agg #[.slice a n ca, .slice p m cp]) (by simp [results, Try.results33, go_sem, r1, r2]) rfl ?_
        obtain ⟨T9, vs9, h9⟩ := HF.out _ _
        exact ⟨T9, vs9, _, _, _, _, _, _, rfl, h9⟩
  have HE0 : Hid (s.disk = (s1, D)) := by
    show _ = _
    rw [HE.out]
    exact bentF_rest _ _ e0 e1 e2 e3 e4 e5
  obtain ⟨a9, n9, ca9, p9, m9, cp9, ⟨g1, g2⟩, ⟨r1, r2, r3, r4⟩, HF⟩ := disk_end (q := (s1, D)) HD.out HRS.out
  rw [← HE0.out] at HF
  clear HD HRS hA HE0 HE c2 d1 d2 d3 d4
  go_wp2
  refine bodyPost_ret (v := .agg #[.slice a9 n9 ca9, .slice p9 m9 cp9]) (by simp [results, Try.results33, go_sem, r1, r2]) rfl ?_
  obtain ⟨T9, vs9, h9⟩ := HF.out _ _
  exact ⟨T9, vs9, _, _, _, _, _, _, rfl, h9⟩
end Go.Proofs.Ytkkammbfomiofaa
