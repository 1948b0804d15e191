/-
  Bar, Bab.
-/
import Derived.Test.YtonpdbajoidigaaGreatDoorGe
/-
  The cached disk: barrier.
-/
namespace Go.Proofs.YtonpdbajoidigaaGreatDoor
open Go.RowKit
set_option linter.unusedSimpArgs false
set_option linter.unusedVariables false

theorem heap_setCells (b : Nat) (e : TypeId) : ∀ (vs : List Value) (o : Nat) (w : World) (cur : Array Value), w.heap[b]? = some (.cells cur e (0, 0)) → o + vs.length ≤ cur.size →
    (w.setCells b o vs).heap[b]? = some (.cells (cur.toList.take o ++ vs ++ cur.toList.drop (o + vs.length)).toArray e (0, 0))
  | [], o, w, cur, h, hl => by simpa [World.setCells] using h
  | v :: r, o, w, cur, h, hl => by
    simp only [List.length_cons] at hl
    have h1 : (w.setCell ⟨b, o, none⟩ v).heap[b]? = some (.cells (cur.setIfInBounds o v) e (0, 0)) := by
      simp [World.setCell, Array.getElem?_modify, h]
    have := heap_setCells b e r (o + 1) (w.setCell ⟨b, o, none⟩ v) (cur.setIfInBounds o v) h1 (by simp; omega)
    show ((w.setCell ⟨b, o, none⟩ v).setCells b (o + 1) r).heap[b]? = _
    rw [this]
    have hl2 : o < cur.toList.length := by simp; omega
    congr 3
    simp only [Array.toList_setIfInBounds]
    rw [List.take_succ_eq_append_getElem (by simpa using hl2), List.take_set_of_le (Nat.le_refl _), List.getElem_set_self, List.drop_set_of_lt (by omega)]
    simp only [List.append_assoc, List.cons_append, List.nil_append, List.length_cons]
    rw [show o + 1 + r.length = o + (r.length + 1) by omega]

/-- Cells of a row are written. -/
def spl {α : Type} (xs : List α) (o : Nat) (vs : List α) : List α := xs.take o ++ vs ++ xs.drop (o + vs.length)
theorem spl_len {α : Type} (xs : List α) (o : Nat) (vs : List α) (h : o + vs.length ≤ xs.length) : (spl xs o vs).length = xs.length := by simp [spl]; omega
theorem u8s_spl (xs : List Int) (o : Nat) (vs : List Int) : u8s (spl xs o vs) = spl (u8s xs) o (u8s vs) := by simp [spl, u8s, List.map_take, List.map_drop]
theorem spl_take {α : Type} (L : List α) (o : Nat) (vs : List α) (N : Nat) (h : o + vs.length ≤ N) (hN : N ≤ L.length) : (L.take o ++ vs ++ L.drop (o + vs.length)).take N = spl (L.take N) o vs := by
  have h1 : (L.take o ++ vs).length = o + vs.length := by simp; omega
  rw [List.take_append, h1, List.take_of_length_le (by omega), spl, List.take_take, Nat.min_eq_left (by omega), List.drop_take]
theorem owns_setCells {w : World} {B e sz n g c : Nat} {xs vs : List Value} (h : w.ownsRow B e sz (.slice (some ⟨g, 0, none⟩) n c) n xs) (o : Nat) (hl : o + vs.length ≤ n * sz) :
    (w.setCells g o vs).ownsRow B e sz (.slice (some ⟨g, 0, none⟩) n c) n (spl xs o vs) := by
  have hxl := h.1
  refine ⟨by rw [spl_len _ _ _ (by omega)]; exact hxl, ?_⟩
  rcases h.2 with ⟨e1, _⟩ | ⟨g', cap, cur, e1, hB, hh, hcap, hmx, hcs, htk⟩
  · cases e1
  injection e1 with e1 e2 e3
  injection e1 with e1
  injection e1 with e1
  subst e1; subst e3
  have hsz : n * sz ≤ cur.size := by rw [hcs]; exact Nat.mul_le_mul_right _ hcap
  refine .inr ⟨g, c, _, rfl, hB, heap_setCells g e vs o w cur hh (by omega), hcap, hmx, by simp; omega, ?_⟩
  simp only [List.toList_toArray]
  rw [← htk]
  exact spl_take _ _ _ _ hl (by simpa using hsz)
theorem kept_setCells (w : World) (g o : Nat) (vs : List Value) : Kept (fun x => x = g) w (w.setCells g o vs) := by
  induction vs generalizing w o with
  | nil => exact Kept.refl _ _
  | cons v r ih => exact (Kept.setCell w ⟨g, o, none⟩ v (fun x => x = g) rfl).trans (ih _ _)

theorem clear_run {w : World} {M : Nat} {es : Array MapEntry} {clock : Nat} (hb : w.heap[M]? = some (.map es clock)) (ty : TypeId) : (Builtin.clear_ #[89] ty #[.map (some M)]).run Tryz.prog w = .ok (.tuple #[]) (ChangeMaps.setBlock w M (.map #[] clock)) := by
  simp [Builtin.clear_, run_underlying Tryz.underlying89, MapKept.run_getObj_map hb, MapKept.run_setObj_map _ hb, Result.andThen]
  rfl

set_option maxHeartbeats 1000000 in
theorem forget_any (B C nb : Nat) (xs : List Int) (ws : List (Int × List Int)) (dv wv : Value) (M : Nat) (D : DataW Unit) (w : World) (h : CD B w C nb xs ws dv wv M D) :
    Calls Tryz.prog 180 #[.pointer (some ⟨C, 0, none⟩)] w fun e w' => (∃ v, e = .returned v) ∧ CD B w' C nb xs [] dv (.slice none 0 0) M (.map []) ∧ Kept (fun g => g = C ∨ g = M) w w' := by
  obtain ⟨es, clock, hb, F, _, _⟩ := h.map
  have hCM := h.neM
  have hlC := h.ltC
  have hlM := h.ltM
  obtain ⟨k1, k2, k3, kf⟩ := cells3 h.cell
  obtain ⟨W1, hW1⟩ : ∃ W1, w.setCell ⟨C, 1, none⟩ (.slice none 0 0) = W1 := ⟨_, rfl⟩
  have kW : Kept (fun g => g = C) w W1 := by rw [← hW1]; exact Kept.setCell w ⟨C, 1, none⟩ _ (fun g => g = C) rfl
  have c1 : W1.heap[C]? = some (.cells #[dv, .slice none 0 0, .map (some M)] 91 (0, 0)) := by
    rw [← hW1]
    simp [World.setCell, Array.getElem?_modify, h.cell]
  have hb1 : W1.heap[M]? = some (.map es clock) := (kW.block M hlM (fun e => hCM e.symm)).trans hb
  have hcl := fun ty => clear_run hb1 ty
  obtain ⟨j1, j2, j3, _⟩ := cells3 c1
  have hfin : CD B (ChangeMaps.setBlock W1 M (.map #[] clock)) C nb xs [] dv (.slice none 0 0) M (.map []) ∧ Kept (fun g => g = C ∨ g = M) w (ChangeMaps.setBlock W1 M (.map #[] clock)) := by
    have ks : Kept (fun g => g = M) W1 (ChangeMaps.setBlock W1 M (.map #[] clock)) := ⟨rfl, rfl, rfl, by simp [ChangeMaps.setBlock], fun j _ hj => by simp [ChangeMaps.setBlock, Array.getElem?_setIfInBounds, Ne.symm hj]⟩
    have kt : Kept (fun g => g = C ∨ g = M) w (ChangeMaps.setBlock W1 M (.map #[] clock)) := (kW.mono fun g hg => .inl hg).trans (ks.mono fun g hg => .inr hg)
    have hMl : M < W1.heap.size := (Array.getElem?_eq_some_iff.1 hb1).1
    refine ⟨⟨(ks.block C (Array.getElem?_eq_some_iff.1 c1).1 hCM).trans c1, row_kept h.dur kt (fun g hg e => ?_), ⟨rfl, .inl ⟨rfl, rfl⟩⟩, ⟨#[], clock, by simp [ChangeMaps.setBlock, Array.getElem?_setIfInBounds, hMl], ⟨by simp, MapKept.stamped_empty clock, by simp⟩, Nat.le_refl _, rfl⟩, Young.nil, h.len, fun x hx => by simp at hx, h.hC, h.hM⟩, kt⟩
    obtain ⟨n1, n2, _⟩ := h.dvNe hg
    rcases e with e | e
    · exact n1 e
    · exact n2 e
  have HF := Hid.out hfin
  clear hfin F h kW hb hb1 c1
  go_enter Tryz.func180, Tryz.ntmps180
  go_wp2
  try rw [hW1]
  go_end0
  exact ⟨⟨_, rfl⟩, HF⟩
end Go.Proofs.YtonpdbajoidigaaGreatDoor

/-
  The cached disk: barrier.
-/
namespace Go.Proofs.YtonpdbajoidigaaGreatDoor
open Go.RowKit
set_option linter.unusedSimpArgs false
set_option linter.unusedVariables false

/-- A write with so many of its first bytes. -/
def setL (xs : List Int) (x : Int × List Int) (c : Nat) : List Int := spl xs (x.1.toNat * 64) (x.2.take c)
/-- Writes, each with so many of its first bytes. -/
def stl (xs : List Int) (l : List ((Int × List Int) × Nat)) : List Int := l.foldl (fun xs y => setL xs y.1 y.2) xs
/-- All of each. -/
def stlAll (xs : List Int) (ws : List (Int × List Int)) : List Int := stl xs (ws.map fun x => (x, 64))
theorem stl_snoc (xs : List Int) (l : List ((Int × List Int) × Nat)) (y : (Int × List Int) × Nat) : stl xs (l ++ [y]) = setL (stl xs l) y.1 y.2 := by simp [stl, List.foldl_append]
theorem setL_len (xs : List Int) (x : Int × List Int) (c : Nat) (h : x.1.toNat * 64 + 64 ≤ xs.length) (hc : c ≤ 64) : (setL xs x c).length = xs.length := spl_len _ _ _ (by simp; omega)

/-- Half-way: the writes done so far. -/
theorem CD.store {B : Nat} {w : World} {C nb : Nat} {xs : List Int} {ws : List (Int × List Int)} {gD dc : Nat} {wv : Value} {M : Nat} {D : DataW Unit} (h : CD B w C nb xs ws (.slice (some ⟨gD, 0, none⟩) nb dc) wv M D) (x : Int × List Int) (c : Nat) (hx : x.1.toNat < nb) (hc : c ≤ 64) :
    CD B (w.setCells gD (x.1.toNat * 64) (u8s (x.2.take c))) C nb (setL xs x c) ws (.slice (some ⟨gD, 0, none⟩) nb dc) wv M D ∧ Kept (fun g => g = gD) w (w.setCells gD (x.1.toNat * 64) (u8s (x.2.take c))) := by
  have kk := kept_setCells w gD (x.1.toNat * 64) (u8s (x.2.take c))
  obtain ⟨n1, n2, n3, _⟩ := h.dvNe (g := gD) rfl
  have hl : x.1.toNat * 64 + (u8s (x.2.take c)).length ≤ nb * 64 := by rw [u8s_len]; simp; omega
  refine ⟨⟨(kk.block C h.ltC (fun e => n1 e.symm)).trans h.cell, ?_, row_kept h.wr kk (fun g hg e => by subst e; exact n3 hg), map_kept h.map kk (fun e => n2 e.symm), h.young, ?_, h.lens, h.hC, h.hM⟩, kk⟩
  · rw [setL, u8s_spl]
    exact owns_setCells h.dur _ hl
  · rw [setL_len _ _ _ (by rw [h.len]; omega) hc]
    exact h.len

set_option maxRecDepth 100000 in
set_option maxHeartbeats 1600000 in
theorem barrier_any (B C nb : Nat) (xs : List Int) (ws : List (Int × List Int)) (da : Option Addr) (dc : Nat) (wa : Option Addr) (wc M : Nat) (D : DataW Unit) (w : World) (h : CD B w C nb xs ws (.slice da nb dc) (.slice wa ws.length wc) M D) (hm : ws.length < 4096) (hnb : 1 ≤ nb ∧ nb ≤ 4096) (hok : ∀ x ∈ ws, 0 ≤ x.1 ∧ x.1 < (nb : Int)) (hB : B ≤ w.heap.size) :
    Calls Tryz.prog 150 #[.pointer (some ⟨C, 0, none⟩)] w fun e w' => (∃ v, e = .returned v) ∧ CD B w' C nb (stlAll xs ws) [] (.slice da nb dc) (.slice none 0 0) M (.map []) ∧ Below B w w' := by
  obtain ⟨k1, k2, k3, kf⟩ := cells3 h.cell
  obtain ⟨gD, rfl, hcapD, _⟩ := owns_range h.dur 0 0 (by omega)
  have HOK : Hid (∀ x ∈ ws, 0 ≤ x.1 ∧ x.1 < (nb : Int)) := hok
  have H0 : Hid (CD B w C nb (stl xs ((ws.take 0).map fun x => (x, 64))) ws (.slice (some ⟨gD, 0, none⟩) nb dc) (.slice wa ws.length wc) M D) := by show CD _ _ _ _ _ _ _ _ _ _; simpa [stl] using h
  have HB0 : Hid (Below B w w) := Below.refl _ _
  have HGD : Hid (B ≤ gD) := (h.dur.lt gD rfl).1
  have HCM : Hid (B ≤ C ∧ B ≤ M) := ⟨h.hC, h.hM⟩
  clear h hok
  obtain ⟨i65, hi65, hz65, _, _⟩ := info_parts info93
  go_enter Tryz.func150, Tryz.ntmps150
  go_wp2
  go_loopw [9] (fun i wr => ∃ k : Nat, k ≤ ws.length ∧ i = .int .i64 k ∧ Hid (CD B wr C nb (stl xs ((ws.take k).map fun x => (x, 64))) ws (.slice (some ⟨gD, 0, none⟩) nb dc) (.slice wa ws.length wc) M D) ∧ Hid (Below B w wr)) (fun i _ => ws.length - (intOf i).toNat)
  case atStart => exact ⟨0, Nat.zero_le _, rfl, H0, HB0⟩
  case round =>
    obtain ⟨k, hk, rfl, hcd, hbl⟩ := hrel
    clear H0 HB0
    obtain ⟨c1, c2, c3, cf⟩ := cells3 hcd.out.cell
    have sC := hcd.out.ltC
    by_cases hlt : k < ws.length
    · obtain ⟨x, hx⟩ : ∃ x, ws[k]? = some x := ⟨_, List.getElem?_eq_getElem hlt⟩
      have hxm := List.mem_of_getElem? hx
      have hX : x.2.length = 64 := (hcd.out.lens x hxm).1
      obtain ⟨hx0, hx1⟩ := HOK.out x hxm
      obtain ⟨gW, e1, _, rng0⟩ := owns_range hcd.out.wr (k * 65) 65 (by omega)
      rw [cws_at (fun y hy => (hcd.out.lens y hy).1) hx] at rng0
      subst e1
      have hXs : (cwL x).toArray.size = 65 := by rw [List.size_toArray, cwL_len _ hX]
      have h1X : (cwL x).toArray.all (·.oneCell') = true := all_oneCell_toArray (cwL_one _)
      have gWl : gW < wr.heap.size := World.block_lt_of_cell? wr _ (rng0 0 (.int .i64 x.1) (by simp [cwL]))
      obtain ⟨W0, hW0⟩ : ∃ W0, wr.alloc (Obj.cells z65.toArray 93) = W0 := ⟨_, rfl⟩
      have hb0 : Below wr.heap.size wr W0 := by rw [← hW0]; exact (Below.refl _ wr).alloc (Nat.le_refl _) _
      have g3 : W0.heap[wr.heap.size]? = some (.cells z65.toArray 93 (0, 0)) := by rw [← hW0]; exact heap_alloc_new wr _
      obtain ⟨W1, hW1⟩ : ∃ W1, W0.setRow wr.heap.size (cwL x).toArray = W1 := ⟨_, rfl⟩
      have g4 : W1.heap[wr.heap.size]? = some (.cells (cwL x).toArray 93 (0, 0)) := by rw [← hW1]; exact setRow_heap W0 wr.heap.size _ _ 93 _ g3
      have hb1 : Below wr.heap.size wr W1 := by rw [← hW1]; exact below_setRow hb0 (Nat.le_refl _) _
      have cd1 := hcd.out.below (hb1.drew)
      have hrow : ∀ j v, (cwL x)[j]? = some v → W1.drew.cell? ⟨wr.heap.size, j, none⟩ = some v := fun j v hv => by
        show W1.cell? _ = _
        rw [cell_of_row W1 wr.heap.size j _ _ _ g4]; simpa using hv
      have SS0 : W1.drew.cell? ⟨C, 0, none⟩ = some (.slice (some ⟨gD, 0, none⟩) nb dc) ∧ W1.drew.cell? ⟨wr.heap.size, 0, none⟩ = some (.int .i64 x.1) ∧ W1.drew.rangeAt wr.heap.size 1 (u8s x.2) := ⟨(cells3 cd1.cell).1, hrow 0 _ (by simp [cwL]), fun j v hv => by
        rw [Nat.add_comm]
        exact hrow (j + 1) v (by simpa [cwL] using hv)⟩
      obtain ⟨cd2, kk2⟩ := cd1.store x 64 (by omega) (Nat.le_refl _)
      have hxt : x.2.take 64 = x.2 := List.take_of_length_le (by omega)
      have eS : setL (stl xs ((ws.take k).map fun x => (x, 64))) x 64 = stl xs ((ws.take (k + 1)).map fun x => (x, 64)) := by
        have hxe : ws[k] = x := by rw [List.getElem?_eq_getElem hlt] at hx; injection hx
        rw [List.take_succ_eq_append_getElem hlt, hxe, List.map_append, List.map_cons, List.map_nil, stl_snoc]
      rw [eS, hxt] at cd2
      rw [hxt] at kk2
      have wrNe : gD ≠ wr.heap.size := by have := (hcd.out.dvNe (g := gD) rfl).2.2.2; omega
      have CNe : gD ≠ C := (hcd.out.dvNe (g := gD) rfl).1
      have SS1 : (W1.drew.setCells gD (x.1.toNat * 64) (u8s x.2)).cell? ⟨C, 0, none⟩ = some (.slice (some ⟨gD, 0, none⟩) nb dc) ∧ (W1.drew.setCells gD (x.1.toNat * 64) (u8s x.2)).cell? ⟨wr.heap.size, 0, none⟩ = some (.int .i64 x.1) ∧ (W1.drew.setCells gD (x.1.toNat * 64) (u8s x.2)).rangeAt wr.heap.size 1 (u8s x.2) := by
        have szW : wr.heap.size < W1.drew.heap.size := (Array.getElem?_eq_some_iff.1 g4).1
        refine ⟨(cells3 cd2.cell).1, (World.cell?_of_block (a := ⟨wr.heap.size, 0, none⟩) (kk2.block _ szW (fun e => wrNe e.symm))).trans SS0.2.1, range_block SS0.2.2 (kk2.block _ szW (fun e => wrNe e.symm))⟩
      have thr : W1.drew.there gD (x.1.toNat * 64) (u8s x.2).toArray.size := by
        obtain ⟨g', e', _, rngD⟩ := owns_range cd1.dur (x.1.toNat * 64) 64 (by omega)
        injection e' with e'
        injection e' with e'
        subst e'
        intro j hj
        rw [List.size_toArray, u8s_len, hX] at hj
        have hlv : x.1.toNat * 64 + j < (u8s (stl xs ((ws.take k).map fun x => (x, 64)))).length := by rw [u8s_len, cd1.len]; omega
        refine ⟨by rw [rngD j _ (by rw [List.getElem?_take, if_pos hj, List.getElem?_drop]; exact List.getElem?_eq_getElem hlv)]; rfl, ?_⟩
        obtain ⟨cur, hc⟩ := owns_tag cd1.dur (g := gD) rfl
        simp [World.frozen?, hc]
      have HCD2 : Hid (CD B (W1.drew.setCells gD (x.1.toNat * 64) (u8s x.2)) C nb (stl xs ((ws.take (k + 1)).map fun x => (x, 64))) ws (.slice (some ⟨gD, 0, none⟩) nb dc) (.slice (some ⟨gW, 0, none⟩) ws.length wc) M D) := cd2
      have HB2 : Hid (Below B w (W1.drew.setCells gD (x.1.toNat * 64) (u8s x.2))) := (hbl.out.trans ((hb1.drew).mono (by have := hbl.out.size; omega))).trans (kk2.below (by have := hbl.out.size; have := hb1.size; show B ≤ W1.heap.size; omega) (fun g hg => by subst hg; exact HGD.out))
      have rng : wr.rangeAt gW (k * 65) (cwL x) := rng0
      have hzv : ∀ W, (zeroValue 93).run Tryz.prog W = .ok (.agg z65.toArray) W := fun W => by simp [zeroValue, typeInfo, hi65, hz65]
      have hXs2 : (u8s x.2).toArray.size = 64 := by rw [List.size_toArray, u8s_len, hX]
      have h1X2 : (u8s x.2).toArray.all (·.oneCell') = true := all_oneCell_toArray (many_u8 _)
      have HTH : Hid (W1.drew.there gD (x.1.toNat * 64) (u8s x.2).toArray.size) := thr
      have HS1 := Hid.out SS1
      have HSS1 : Hid (_ ∧ _ ∧ _) := SS1
      clear cd1 cd2 kk2 hb1 g4 rng0 hrow eS hxt thr SS1 HS1
      go_wp2_with (first
        | (refine wpList_load_mid rfl 93 _ rfl gW (k * 65) rfl (cwL x) _ rng Tryz.underlying93 rfl (by rw [cwL_len _ hX]; exact infoCW) ?_)
        | (refine wpList_store_row rfl 93 _ _ rfl wr.heap.size (cwL x).toArray rfl rfl 93 _ g3 (by rw [hXs]; exact infoCW) (by rw [hXs]; rfl) h1X ?_))
      try rw [hW1]
      clear hW0 hW1 hb0 g3 rng
      refine wp_region_held_drew (S := fun V => V.cell? ⟨C, 0, none⟩ = some (.slice (some ⟨gD, 0, none⟩) nb dc) ∧ V.cell? ⟨wr.heap.size, 0, none⟩ = some (.int .i64 x.1) ∧ V.rangeAt wr.heap.size 1 (u8s x.2)) (by kernel_rfl) SS0 (fun hS => ?_)
      refine wpAnyH_take (i := 0) (v := .pointer (some ⟨C, 0, none⟩)) rfl (by kernel_rfl) (by kernel_rfl) (by kernel_rfl) (fun _ _ _ h => h) (Or.inl ⟨rfl, fun V hV => by go_simp⟩) hS ?_
      refine wpAnyH_take (i := 1) (v := .pointer (some ⟨C, 0, none⟩)) rfl (by kernel_rfl) (by kernel_rfl) (by kernel_rfl) (fun _ _ _ h => h) (Or.inl ⟨rfl, fun V hV => by go_simp⟩) hS ?_
      refine wpAnyH_take (i := 2) (v := .pointer (some ⟨C, 0, none⟩)) rfl (by kernel_rfl) (by kernel_rfl) (by kernel_rfl) (fun _ _ _ h => h) (Or.inl ⟨rfl, fun V hV => by go_simp⟩) hS ?_
      refine wpAnyH_take (i := 3) (v := .slice (some ⟨gD, 0, none⟩) nb dc) rfl (by kernel_rfl) (by kernel_rfl) (by kernel_rfl) (fun _ _ _ h => h) (Or.inl ⟨rfl, fun V hV => by obtain ⟨h1, h2, h3⟩ := hV; clear h3; go_simp⟩) hS ?_
      refine wpAnyH_take (i := 4) (v := .pointer (some ⟨wr.heap.size, 0, none⟩)) rfl (by kernel_rfl) (by kernel_rfl) (by kernel_rfl) (fun _ _ _ h => h) (Or.inl ⟨rfl, fun V hV => by go_simp⟩) hS ?_
      refine wpAnyH_take (i := 5) (v := .int .i64 x.1) rfl (by kernel_rfl) (by kernel_rfl) (by kernel_rfl) (fun _ _ _ h => h) (Or.inl ⟨rfl, fun V hV => by obtain ⟨h1, h2, h3⟩ := hV; clear h3; go_simp⟩) hS ?_
      refine wpAnyH_take (i := 6) (v := .pointer (some ⟨wr.heap.size, 1, none⟩)) rfl (by kernel_rfl) (by kernel_rfl) (by kernel_rfl) (fun _ _ _ h => h) (Or.inl ⟨rfl, fun V hV => by go_simp⟩) hS ?_
      refine wpAnyH_take (i := 7) (v := .agg (u8s x.2).toArray) rfl (by kernel_rfl) (by kernel_rfl) (by kernel_rfl) (fun _ _ _ h => h) (yieldsIf_load_mid rfl 74 (.tmp 19) rfl wr.heap.size 1 rfl (u8s x.2) _ (fun V hV => hV.2.2) Tryz.underlying74 rfl (by rw [u8s_len, hX]; exact infoBB)) hS ?_
      refine wpAnyH_take (i := 8) (v := .pointer (some ⟨gD, x.1.toNat * 64, none⟩)) rfl (by kernel_rfl) (by kernel_rfl) (by kernel_rfl) (fun _ _ _ h => h) (Or.inl ⟨rfl, fun V hV => by have q1 := hx0; have q2 := hx1; go_simp⟩) hS ?_
      refine wpAnyH_ready (rs := [9]) (by kernel_rfl) (by simp) (AllReadyH.cons rfl (fun K hK => ?_) AllReadyH.nil)
      have hst : (storeCells ⟨gD, x.1.toNat * 64, none⟩ (u8s x.2)).run Tryz.prog W1.drew = .ok () (W1.drew.setCells gD (x.1.toNat * 64) (u8s x.2)) := by
        have hth := HTH.out
        rw [List.size_toArray] at hth
        have := run_storeCells_cells (P := Tryz.prog) gD (x.1.toNat * 64) (u8s x.2) 0 W1.drew (fun j hj => by simpa using (hth j hj).1) (fun j hj => by simpa using (hth j hj).2) (many_u8 _)
        simpa only [Nat.add_zero] using this
      have hul : (u8s x.2).length = 64 := by rw [u8s_len, hX]
      clear HTH hXs2 h1X2 SS0
      go_simp
      refine hK.out _ _ HSS1.out (fun _ => ?_)
      refine wpAnyH_done (by kernel_rfl) ?_ _
      clear hK K hS hst
      go_wp2
      go_roundw
      case rel => exact ⟨k + 1, by omega, by go_num, HCD2, HB2⟩
      case measure => simp [intOf]; omega
    · obtain rfl : k = ws.length := by omega
      have hcd9 := hcd.out
      rw [List.take_of_length_le (Nat.le_refl _)] at hcd9
      go_wp2_with fail
      refine (forget_any _ _ _ _ _ _ _ _ _ _ hcd9).mono ?_
      rintro e w9 ⟨⟨v, rfl⟩, hc9, hk9⟩
      have HC9 : Hid (CD B w9 C nb (stlAll xs ws) [] (.slice (some ⟨gD, 0, none⟩) nb dc) (.slice none 0 0) M (.map [])) := hc9
      have HB9 : Hid (Below B w w9) := hbl.out.trans (hk9.below (by have := hbl.out.size; omega) (fun g hg => by
        rcases hg with rfl | rfl
        · exact HCM.out.1
        · exact HCM.out.2))
      clear hc9 hk9 hcd hcd9
      go_wp2
      go_end0
      exact ⟨⟨_, rfl⟩, HC9.out, HB9.out⟩
end Go.Proofs.YtonpdbajoidigaaGreatDoor
