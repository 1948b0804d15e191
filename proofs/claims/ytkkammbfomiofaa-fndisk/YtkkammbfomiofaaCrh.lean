/-
  The cached disk: crash.
-/
import Derived.Test.YtkkammbfomiofaaKpt
namespace Go.Proofs.Ytkkammbfomiofaa
open Go.RowKit
set_option linter.unusedSimpArgs false
set_option linter.unusedVariables false

/-- The writes done by a crash. -/
def ckL (ws : List (Int × List Int)) (ch : List Int) : List ((Int × List Int) × Nat) := ws.mapIdx fun k x => (x, kp ch k)
theorem ckL_len (ws : List (Int × List Int)) (ch : List Int) : (ckL ws ch).length = ws.length := by simp [ckL]
theorem ckL_at (ws : List (Int × List Int)) (ch : List Int) {k : Nat} {x : Int × List Int} (h : ws[k]? = some x) : (ckL ws ch)[k]? = some (x, kp ch k) := by simp [ckL, h]

set_option maxRecDepth 100000 in
set_option maxHeartbeats 1600000 in
theorem crash_any (B C nb : Nat) (xs : List Int) (ws : List (Int × List Int)) (da : Option Addr) (dc : Nat) (wa : Option Addr) (wc M : Nat) (D : DataW Unit) (w : World) (h : CD B w C nb xs ws (.slice da nb dc) (.slice wa ws.length wc) M D) (hm : ws.length < 4096) (hnb : 1 ≤ nb ∧ nb ≤ 4096) (hok : ∀ x ∈ ws, 0 ≤ x.1 ∧ x.1 < (nb : Int)) (hB : B ≤ w.heap.size) (ca : Option Addr) (l lc : Nat) (ch : List Int) (hch : Hid (∀ W, Below B w W → IRow .i64 W ca l ch)) (hl : l ≤ 2097152) :
    Calls Try.prog 46 #[.pointer (some ⟨C, 0, none⟩), .slice ca l lc] w fun e w' => (∃ v, e = .returned v) ∧ CD B w' C nb (stl xs (ckL ws ch)) [] (.slice da nb dc) (.slice none 0 0) M (.map []) ∧ Below B w w' := by
  obtain ⟨k1, k2, k3, kf⟩ := cells3 h.cell
  obtain ⟨gD, rfl, hcapD, _⟩ := owns_range h.dur 0 0 (by omega)
  have HOK : Hid (∀ x ∈ ws, 0 ≤ x.1 ∧ x.1 < (nb : Int)) := hok
  have H0 : Hid (CD B w C nb (stl xs ((ckL ws ch).take 0)) ws (.slice (some ⟨gD, 0, none⟩) nb dc) (.slice wa ws.length wc) M D) := by show CD _ _ _ _ _ _ _ _ _ _; simpa [stl] using h
  have HB0 : Hid (Below B w w) := Below.refl _ _
  have HGD : Hid (B ≤ gD) := (h.dur.lt gD rfl).1
  have HCM : Hid (B ≤ C ∧ B ≤ M) := ⟨h.hC, h.hM⟩
  clear h hok
  obtain ⟨i65, hi65, hz65, _, _⟩ := info_parts info111
  go_enter Try.func46, Try.ntmps46
  go_wp2
  go_loopw [12] (fun i wr => ∃ k : Nat, k ≤ ws.length ∧ i = .int .i64 k ∧ Hid (CD B wr C nb (stl xs ((ckL ws ch).take k)) ws (.slice (some ⟨gD, 0, none⟩) nb dc) (.slice wa ws.length wc) M D) ∧ Hid (Below B w wr)) (fun i _ => ws.length - (intOf i).toNat)
  case atStart => exact ⟨0, Nat.zero_le _, rfl, H0, HB0⟩
  case round =>
    obtain ⟨k, hk, rfl, hcd, hbl⟩ := hrel
    clear H0 HB0
    obtain ⟨c1, c2, c3, cf⟩ := cells3 hcd.out.cell
    have sC := hcd.out.ltC
    by_cases hlt : k < ws.length
    · obtain ⟨x, hx⟩ : ∃ x, ws[k]? = some x := ⟨_, List.getElem?_eq_getElem hlt⟩
      have hxm := List.mem_of_getElem? hx
      have hX : x.2.length = 64 := (hcd.out.lens x hxm).1
      obtain ⟨hx0, hx1⟩ := HOK.out x hxm
      obtain ⟨gW, e1, _, rng0⟩ := owns_range hcd.out.wr (k * 65) 65 (by omega)
      rw [cws_at (fun y hy => (hcd.out.lens y hy).1) hx] at rng0
      subst e1
      have hXs : (cwL x).toArray.size = 65 := by rw [List.size_toArray, cwL_len _ hX]
      have h1X : (cwL x).toArray.all (·.oneCell') = true := all_oneCell_toArray (cwL_one _)
      have gWl : gW < wr.heap.size := World.block_lt_of_cell? wr _ (rng0 0 (.int .i64 x.1) (by simp [cwL]))
      obtain ⟨W0, hW0⟩ : ∃ W0, wr.alloc (Obj.cells z65.toArray 111) = W0 := ⟨_, rfl⟩
      have hb0 : Below wr.heap.size wr W0 := by rw [← hW0]; exact (Below.refl _ wr).alloc (Nat.le_refl _) _
      have g3 : W0.heap[wr.heap.size]? = some (.cells z65.toArray 111 (0, 0)) := by rw [← hW0]; exact heap_alloc_new wr _
      obtain ⟨W1, hW1⟩ : ∃ W1, W0.setRow wr.heap.size (cwL x).toArray = W1 := ⟨_, rfl⟩
      have g4 : W1.heap[wr.heap.size]? = some (.cells (cwL x).toArray 111 (0, 0)) := by rw [← hW1]; exact setRow_heap W0 wr.heap.size _ _ 111 _ g3
      have hb1 : Below wr.heap.size wr W1 := by rw [← hW1]; exact below_setRow hb0 (Nat.le_refl _) _
      have HB1 : Hid (Below B w W1) := hbl.out.trans (hb1.mono (by have := hbl.out.size; omega))
      have HG4 : Hid (W1.heap[wr.heap.size]? = some (.cells (cwL x).toArray 111 (0, 0))) := g4
      have HBW : Hid (Below wr.heap.size wr W1) := hb1
      have rng : wr.rangeAt gW (k * 65) (cwL x) := rng0
      have hzv : ∀ W, (zeroValue 111).run Try.prog W = .ok (.agg z65.toArray) W := fun W => by simp [zeroValue, typeInfo, hi65, hz65]
      have HX : Hid (x.2.length = 64) := hX
      have HXW : Hid (ws[k]? = some x) := hx
      clear hb1 g4 rng0 hx
      go_wp2_with (first
        | (refine wpList_load_mid rfl 111 _ rfl gW (k * 65) rfl (cwL x) _ rng Try.underlying111 rfl (by rw [cwL_len _ hX]; exact infoCW) ?_)
        | (refine wpList_store_row rfl 111 _ _ rfl wr.heap.size (cwL x).toArray rfl rfl 111 _ g3 (by rw [hXs]; exact infoCW) (by rw [hXs]; rfl) h1X ?_))
      try rw [hW1]
      clear hW0 hW1 hb0 g3 rng hXs h1X hzv
      refine (kept_any _ _ _ ch k _ (hch.out _ HB1.out) hl (by omega)).mono ?_
      rintro e w2 ⟨rfl, hb2⟩
      obtain ⟨c, hcc⟩ : ∃ c, kp ch k = c := ⟨_, rfl⟩
      have hc64 : c ≤ 64 := by rw [← hcc]; exact kp_le ch k
      rw [hcc]
      have hsW : wr.heap.size < W1.heap.size := (Array.getElem?_eq_some_iff.1 HG4.out).1
      have hb12 : Below wr.heap.size wr w2 := HBW.out.trans (hb2.mono HBW.out.size)
      have cd1 := hcd.out.below (hb12.drew)
      have g4 : w2.heap[wr.heap.size]? = some (.cells (cwL x).toArray 111 (0, 0)) := (hb2.block _ hsW).trans HG4.out
      have hrow : ∀ j v, (cwL x)[j]? = some v → w2.drew.cell? ⟨wr.heap.size, j, none⟩ = some v := fun j v hv => by
        show w2.cell? _ = _
        rw [cell_of_row w2 wr.heap.size j _ _ _ g4]; simpa using hv
      have SS0 : w2.drew.cell? ⟨C, 0, none⟩ = some (.slice (some ⟨gD, 0, none⟩) nb dc) ∧ w2.drew.cell? ⟨wr.heap.size, 0, none⟩ = some (.int .i64 x.1) := ⟨(cells3 cd1.cell).1, hrow 0 _ (by simp [cwL])⟩
      have hsrc : ∀ j v, (u8s (x.2.take c))[j]? = some v → w2.drew.cell? ((⟨wr.heap.size, 1, none⟩ : Addr).add j) = some v := fun j v hv => by
        have e : (⟨wr.heap.size, 1, none⟩ : Addr).add j = ⟨wr.heap.size, j + 1, none⟩ := by
          unfold Addr.add
          by_cases h0 : j = 0
          · simp [h0]
          · simp [h0, Nat.add_comm]
        rw [e]
        refine hrow (j + 1) v ?_
        have hj : j < c := by
          have := (List.getElem?_eq_some_iff.1 hv).1
          rw [u8s_len, List.length_take] at this
          omega
        simp only [cwL, List.getElem?_cons_succ]
        rw [← hv]
        simp [u8s, List.getElem?_take, hj]
      obtain ⟨cd2, kk2⟩ := cd1.store x c (by omega) hc64
      have eS : setL (stl xs ((ckL ws ch).take k)) x c = stl xs ((ckL ws ch).take (k + 1)) := by
        have hkl : k < (ckL ws ch).length := by rw [ckL_len]; exact hlt
        have hxe : (ckL ws ch)[k] = (x, c) := by
          have := ckL_at ws ch HXW.out
          rw [List.getElem?_eq_getElem hkl, hcc] at this
          injection this
        rw [List.take_succ_eq_append_getElem hkl, hxe, stl_snoc]
      rw [eS] at cd2
      have wrNe : gD ≠ wr.heap.size := by have := (hcd.out.dvNe (g := gD) rfl).2.2.2; omega
      have SS1 : (w2.drew.setCells gD (x.1.toNat * 64) (u8s (x.2.take c))).cell? ⟨C, 0, none⟩ = some (.slice (some ⟨gD, 0, none⟩) nb dc) ∧ (w2.drew.setCells gD (x.1.toNat * 64) (u8s (x.2.take c))).cell? ⟨wr.heap.size, 0, none⟩ = some (.int .i64 x.1) := by
        have szW : wr.heap.size < w2.drew.heap.size := (Array.getElem?_eq_some_iff.1 g4).1
        exact ⟨(cells3 cd2.cell).1, (World.cell?_of_block (a := ⟨wr.heap.size, 0, none⟩) (kk2.block _ szW (fun e => wrNe e.symm))).trans SS0.2⟩
      have hul : (u8s (x.2.take c)).length = c := by rw [u8s_len, List.length_take]; omega
      have thr : ∀ j, j < (u8s (x.2.take c)).length → (w2.drew.cell? ⟨gD, x.1.toNat * 64 + j, none⟩).isSome = true ∧ w2.drew.frozen? ⟨gD, x.1.toNat * 64 + j, none⟩ = false := by
        obtain ⟨g', e', _, rngD⟩ := owns_range cd1.dur (x.1.toNat * 64) 64 (by omega)
        injection e' with e'
        injection e' with e'
        subst e'
        intro j hj
        rw [hul] at hj
        have hlv : x.1.toNat * 64 + j < (u8s (stl xs ((ckL ws ch).take k))).length := by rw [u8s_len, cd1.len]; omega
        refine ⟨by rw [rngD j _ (by rw [List.getElem?_take, if_pos (by omega), List.getElem?_drop]; exact List.getElem?_eq_getElem hlv)]; rfl, ?_⟩
        obtain ⟨cur, hc⟩ := owns_tag cd1.dur (g := gD) rfl
        simp [World.frozen?, hc]
      have hst : ∀ ty, (Builtin.copy_ #[22, 22] ty #[.slice (some ⟨gD, x.1.toNat * 64, none⟩) c 64, .slice (some ⟨wr.heap.size, 1, none⟩) c 64]).run Try.prog w2.drew = .ok (goInt c) (w2.drew.setCells gD (x.1.toNat * 64) (u8s (x.2.take c))) := fun ty => by
        have := run_copy_cells (P := Try.prog) w2.drew 22 22 ty 5 gD (x.1.toNat * 64) c 64 ⟨wr.heap.size, 1, none⟩ c 64 (u8s (x.2.take c)) Try.underlying22 info5s (by rw [hul]; simp) hsrc (fun j hj => (thr j hj).1) (fun j hj => (thr j hj).2) (many_u8 _)
        rwa [hul] at this
      have HST := Hid.out hst
      have HCD2 : Hid (CD B (w2.drew.setCells gD (x.1.toNat * 64) (u8s (x.2.take c))) C nb (stl xs ((ckL ws ch).take (k + 1))) ws (.slice (some ⟨gD, 0, none⟩) nb dc) (.slice (some ⟨gW, 0, none⟩) ws.length wc) M D) := cd2
      have HB2 : Hid (Below B w (w2.drew.setCells gD (x.1.toNat * 64) (u8s (x.2.take c)))) := (hbl.out.trans ((hb12.drew).mono (by have := hbl.out.size; omega))).trans (kk2.below (by have := hbl.out.size; have := hb12.size; show B ≤ w2.heap.size; omega) (fun g hg => by subst hg; exact HGD.out))
      have HSS1 : Hid (_ ∧ _) := SS1
      have HHST : Hid (∀ ty, (Builtin.copy_ #[22, 22] ty #[.slice (some ⟨gD, x.1.toNat * 64, none⟩) c 64, .slice (some ⟨wr.heap.size, 1, none⟩) c 64]).run Try.prog w2.drew = .ok (goInt c) (w2.drew.setCells gD (x.1.toNat * 64) (u8s (x.2.take c)))) := hst
      have hc64' : (c : Int) ≤ 64 := by omega
      clear cd1 cd2 kk2 hb2 hb12 g4 hrow eS thr SS1 hst HST hul hsrc HG4 HBW HB1 hcc hX
      go_wp2_with fail
      refine wp_region_held_drew (S := fun V => V.cell? ⟨C, 0, none⟩ = some (.slice (some ⟨gD, 0, none⟩) nb dc) ∧ V.cell? ⟨wr.heap.size, 0, none⟩ = some (.int .i64 x.1)) (by kernel_rfl) SS0 (fun hS => ?_)
      refine wpAnyH_take (i := 0) (v := .pointer (some ⟨C, 0, none⟩)) rfl (by kernel_rfl) (by kernel_rfl) (by kernel_rfl) (fun _ _ _ h => h) (Or.inl ⟨rfl, fun V hV => by go_simp⟩) hS ?_
      refine wpAnyH_take (i := 1) (v := .pointer (some ⟨C, 0, none⟩)) rfl (by kernel_rfl) (by kernel_rfl) (by kernel_rfl) (fun _ _ _ h => h) (Or.inl ⟨rfl, fun V hV => by go_simp⟩) hS ?_
      refine wpAnyH_take (i := 2) (v := .pointer (some ⟨C, 0, none⟩)) rfl (by kernel_rfl) (by kernel_rfl) (by kernel_rfl) (fun _ _ _ h => h) (Or.inl ⟨rfl, fun V hV => by go_simp⟩) hS ?_
      refine wpAnyH_take (i := 3) (v := .slice (some ⟨gD, 0, none⟩) nb dc) rfl (by kernel_rfl) (by kernel_rfl) (by kernel_rfl) (fun _ _ _ h => h) (Or.inl ⟨rfl, fun V hV => by obtain ⟨h1, h2⟩ := hV; go_simp⟩) hS ?_
      refine wpAnyH_take (i := 4) (v := .pointer (some ⟨wr.heap.size, 0, none⟩)) rfl (by kernel_rfl) (by kernel_rfl) (by kernel_rfl) (fun _ _ _ h => h) (Or.inl ⟨rfl, fun V hV => by go_simp⟩) hS ?_
      refine wpAnyH_take (i := 5) (v := .int .i64 x.1) rfl (by kernel_rfl) (by kernel_rfl) (by kernel_rfl) (fun _ _ _ h => h) (Or.inl ⟨rfl, fun V hV => by obtain ⟨h1, h2⟩ := hV; go_simp⟩) hS ?_
      refine wpAnyH_take (i := 6) (v := .pointer (some ⟨gD, x.1.toNat * 64, none⟩)) rfl (by kernel_rfl) (by kernel_rfl) (by kernel_rfl) (fun _ _ _ h => h) (Or.inl ⟨rfl, fun V hV => by have q1 := hx0; have q2 := hx1; go_simp⟩) hS ?_
      refine wpAnyH_take (i := 7) (v := .int .i64 c) rfl (by kernel_rfl) (by kernel_rfl) (by kernel_rfl) (fun _ _ _ h => h) (Or.inl ⟨rfl, fun V hV => by go_simp⟩) hS ?_
      refine wpAnyH_take (i := 8) (v := .slice (some ⟨gD, x.1.toNat * 64, none⟩) c 64) rfl (by kernel_rfl) (by kernel_rfl) (by kernel_rfl) (fun _ _ _ h => h) (Or.inl ⟨rfl, fun V hV => by have q1 := hc64; have q2 := hc64'; go_simp⟩) hS ?_
      refine wpAnyH_take (i := 9) (v := .pointer (some ⟨wr.heap.size, 1, none⟩)) rfl (by kernel_rfl) (by kernel_rfl) (by kernel_rfl) (fun _ _ _ h => h) (Or.inl ⟨rfl, fun V hV => by go_simp⟩) hS ?_
      refine wpAnyH_take (i := 10) (v := .int .i64 c) rfl (by kernel_rfl) (by kernel_rfl) (by kernel_rfl) (fun _ _ _ h => h) (Or.inl ⟨rfl, fun V hV => by go_simp⟩) hS ?_
      refine wpAnyH_take (i := 11) (v := .slice (some ⟨wr.heap.size, 1, none⟩) c 64) rfl (by kernel_rfl) (by kernel_rfl) (by kernel_rfl) (fun _ _ _ h => h) (Or.inl ⟨rfl, fun V hV => by have q1 := hc64; have q2 := hc64'; go_simp⟩) hS ?_
      refine wpAnyH_ready (rs := [12]) (by kernel_rfl) (by simp) (AllReadyH.cons rfl (fun K hK => ?_) AllReadyH.nil)
      have hst := HHST.out
      clear SS0
      go_simp
      refine hK.out _ _ HSS1.out (fun _ => ?_)
      refine wpAnyH_done (by kernel_rfl) ?_ _
      clear hK K hS hst
      go_wp2
      go_roundw
      case rel => exact ⟨k + 1, by omega, by go_num, HCD2, HB2⟩
      case measure => simp [intOf]; omega
    · obtain rfl : k = ws.length := by omega
      have hcd9 := hcd.out
      rw [List.take_of_length_le (by rw [ckL_len]; exact Nat.le_refl _)] at hcd9
      go_wp2_with fail
      refine (forget_any _ _ _ _ _ _ _ _ _ _ hcd9).mono ?_
      rintro e w9 ⟨⟨v, rfl⟩, hc9, hk9⟩
      have HC9 : Hid (CD B w9 C nb (stl xs (ckL ws ch)) [] (.slice (some ⟨gD, 0, none⟩) nb dc) (.slice none 0 0) M (.map [])) := hc9
      have HB9 : Hid (Below B w w9) := hbl.out.trans (hk9.below (by have := hbl.out.size; omega) (fun g hg => by
        rcases hg with rfl | rfl
        · exact HCM.out.1
        · exact HCM.out.2))
      clear hc9 hk9 hcd hcd9
      go_wp2
      go_end0
      exact ⟨⟨_, rfl⟩, HC9.out, HB9.out⟩
end Go.Proofs.Ytkkammbfomiofaa
