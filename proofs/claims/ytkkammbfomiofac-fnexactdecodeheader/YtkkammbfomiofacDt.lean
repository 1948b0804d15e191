/-
  The specification's DecodeHeader: the long way.
-/
import Derived.Test.YtkkammbfomiofacDs
import Derived.Deep.CutRange
namespace Go.Proofs.Ytkkammbfomiofac
open Go.RowKit
set_option linter.unusedSimpArgs false
set_option linter.unusedVariables false

theorem encH_byt (s p q : Int) : Byt (encH s p q) := by
  unfold encH
  split
  · exact hdrL_byt s p q
  · intro x hx; simp at hx
theorem after3 {w : World} (o1 o2 : Obj) : Below w.heap.size w ((w.alloc o1).drew.alloc o2) ∧ ((w.alloc o1).drew.alloc o2).heap[w.heap.size]? = some o1 ∧ ((w.alloc o1).drew.alloc o2).heap[w.heap.size + 1]? = some o2 := by
  obtain ⟨k1, k2, hb, s0⟩ := @two_blocks w o1 o2
  exact ⟨(((Below.refl _ _).alloc (Nat.le_refl _) _).drew).alloc (by simp) _, k1, k2⟩

set_option maxHeartbeats 4000000 in
theorem spec_go (g off c : Nat) (xs : List Int) (w : World) (ha : IRow .u8 w (some ⟨g, off, none⟩) 64 xs) (hb : Byt xs) (hx0 : xs[0]?.getD 0 ≤ 127) (hc : 64 ≤ c) (hm : c ≤ 9223372036854775807) :
    Calls Try.prog 18 #[.slice (some ⟨g, off, none⟩) 64 c] w fun e w' => e = .returned (.agg (decV xs)) ∧ Below w.heap.size w w' := by
  rcases ha.2 with h0 | ⟨g', off', e, hcell⟩
  · omega
  injection e with e
  injection e with e1 e2 e3
  subst e1; subst e2
  have c0 := hcell 0 (by omega)
  rw [Nat.add_zero] at c0
  have hA0 : ∀ o, (w.alloc o).cell? ⟨g, off, none⟩ = some (.int .u8 (xs[0]?.getD 0)) := fun o => (((Below.refl _ _).alloc (Nat.le_refl _) o).cell (World.block_lt_of_cell? w _ c0)).trans c0
  clear hcell
  generalize xs[0]?.getD 0 = x0 at *
  have q8 : ¬ c = 8 := by omega
  have q10 : ¬ c = 10 := by omega
  have q1 : 8 ≤ c := by omega
  have q2 : 10 ≤ c := by omega
  have q3 : 12 ≤ c := by omega
  have HAW : Hid (∀ o, IRow .u8 (w.alloc o).drew (some ⟨g, off, none⟩) 64 xs) := fun o => ha.below ((Below.refl _ _).alloc (Nat.le_refl _) o).drew
  have HAW2 : Hid (∀ o o', IRow .u8 ((w.alloc o).drew.alloc o') (some ⟨g, off, none⟩) 64 xs) := fun o o' => (HAW.out o).below ((Below.refl _ _).alloc (Nat.le_refl _) o')
  have L0 : ∀ W ca, IRow .u8 W (some ⟨g, off, none⟩) 64 xs → Calls Try.prog 53 #[.slice (some ⟨g, off, none⟩) 8 ca] W (fun e w' => e = .returned (.int .i64 (hS xs)) ∧ w' = W) := fun W ca h => l2Number_any _ _ _ _ _ (irow_takeN 8 (by omega) h) (by omega)
  have L1 : ∀ W ca, IRow .u8 W (some ⟨g, off, none⟩) 64 xs → Calls Try.prog 53 #[.slice (some ⟨g, off + 8, none⟩) 2 ca] W (fun e w' => e = .returned (.int .i64 (hP xs)) ∧ w' = W) := fun W ca h => l2Number_any _ _ _ _ _ (irow_takeN 2 (by omega) (irow_drop 8 (by omega) h)) (by omega)
  have L2 : ∀ W ca, IRow .u8 W (some ⟨g, off, none⟩) 64 xs → Calls Try.prog 53 #[.slice (some ⟨g, off + 10, none⟩) 2 ca] W (fun e w' => e = .returned (.int .i64 (hQ xs)) ∧ w' = W) := fun W ca h => l2Number_any _ _ _ _ _ (irow_takeN 2 (by omega) (irow_drop 10 (by omega) h)) (by omega)
  have HA : Hid (IRow .u8 w (some ⟨g, off, none⟩) 64 xs ∧ Byt xs) := ⟨ha, hb⟩
  have HE : Hid (∀ W, IRow .u8 W (some ⟨g, off, none⟩) 64 xs → (convert 24 9 (.slice (some ⟨g, off, none⟩) 64 c)).run Try.prog W = .ok (.string (strOf xs)) W) := fun W h => conv_str c h hb
  have HSE : Hid (((strOf (encH (hS xs) (hP xs) (hQ xs))).toList == (strOf xs).toList) = decB xs) := by
    show _ = _
    rw [str_eq hb (encH_byt _ _ _), decB]
    have := ha.1
    simp only [this, true_and]
    rw [decide_eq_decide]
    exact ⟨fun h => h.symm, fun h => h.symm⟩
  have HY : Hid (decB xs = true → decV xs = #[.bool true, .int .i64 (hS xs), .int .i64 (hP xs), .int .i64 (hQ xs)]) := decV_yes
  have HN : Hid (decB xs = false → decV xs = #[.bool false, .int .i64 0, .int .i64 0, .int .i64 0]) := decV_no
  clear ha hb
  generalize hS xs = s at *
  generalize hP xs = p at *
  generalize hQ xs = q at *
  generalize decV xs = V at *
  go_enter Try.func18, Try.ntmps18
  go_wp2_with fail
  go_cut [3] from 14 to 23 (fun s3 wx => s3 = .pointer (some ⟨w.heap.size + 1, 0, none⟩) ∧ Below w.heap.size w wx ∧ wx.heap[w.heap.size]? = some (.cells #[.bool false, .int .i64 0, .int .i64 0, .int .i64 0] 32 (0, 0)) ∧ wx.heap[w.heap.size + 1]? = some (.cells #[.int .i64 s, .int .i64 p, .int .i64 q] 26 (0, 0)))
  case first =>
    refine wp_region_any (by kernel_rfl) ?_
    change wpAny _ _ _ _ _ _ _ (World.drew _)
    refine wpAny_take (i := 0) (v := .slice (some ⟨g, off, none⟩) 64 c) rfl (by kernel_rfl) (by kernel_rfl) (by kernel_rfl) (fun _ _ _ h => h) (Or.inl ⟨rfl, fun W => by go_simp⟩) ?_
    refine wpAny_take (i := 1) (v := .slice (some ⟨g, off, none⟩) 8 c) rfl (by kernel_rfl) (by kernel_rfl) (by kernel_rfl) (fun _ _ _ h => h) (Or.inl ⟨rfl, fun W => by go_simp; intro h; exact absurd h (by omega)⟩) ?_
    refine wpAny_take (i := 3) (v := .slice (some ⟨g, off, none⟩) 64 c) rfl (by kernel_rfl) (by kernel_rfl) (by kernel_rfl) (fun _ _ _ h => h) (Or.inl ⟨rfl, fun W => by go_simp⟩) ?_
    refine wpAny_take (i := 4) (v := .slice (some ⟨g, off + 8, none⟩) 2 (c - 8)) rfl (by kernel_rfl) (by kernel_rfl) (by kernel_rfl) (fun _ _ _ h => h) (Or.inl ⟨rfl, fun W => by go_simp; intro h; exact absurd h (by omega)⟩) ?_
    refine wpAny_take (i := 6) (v := .slice (some ⟨g, off, none⟩) 64 c) rfl (by kernel_rfl) (by kernel_rfl) (by kernel_rfl) (fun _ _ _ h => h) (Or.inl ⟨rfl, fun W => by go_simp⟩) ?_
    refine wpAny_take (i := 7) (v := .slice (some ⟨g, off + 10, none⟩) 2 (c - 10)) rfl (by kernel_rfl) (by kernel_rfl) (by kernel_rfl) (fun _ _ _ h => h) (Or.inl ⟨rfl, fun W => by go_simp; intro h; exact absurd h (by omega)⟩) ?_
    refine wpAny_ready (rs := [2, 10]) (by kernel_rfl) (by simp) ?_
    refine AllReady.cons rfl (fun K hK => ?_) (AllReady.cons rfl (fun K hK => ?_) AllReady.nil)
    · go_simp
      refine (L0 _ _ (by first | exact HAW.out _ | exact HAW2.out _ _)).mono ?_
      rintro e w' ⟨rfl, rfl⟩
      go_simp
      refine hK _ _ ?_
      clear hK K
      refine wpAny_ready (rs := [5, 10]) (by kernel_rfl) (by simp) ?_
      refine AllReady.cons rfl (fun K hK => ?_) (AllReady.cons rfl (fun K hK => ?_) AllReady.nil)
      · go_simp
        refine (L1 _ _ (by first | exact HAW.out _ | exact HAW2.out _ _)).mono ?_
        rintro e w' ⟨rfl, rfl⟩
        go_simp
        refine hK _ _ ?_
        clear hK K
        refine wpAny_ready (rs := [8, 10]) (by kernel_rfl) (by simp) ?_
        refine AllReady.cons rfl (fun K hK => ?_) (AllReady.cons rfl (fun K hK => ?_) AllReady.nil)
        · go_simp
          refine (L2 _ _ (by first | exact HAW.out _ | exact HAW2.out _ _)).mono ?_
          rintro e w' ⟨rfl, rfl⟩
          go_simp
          refine hK _ _ ?_
          clear hK K
          refine wpAny_ready (rs := [9, 10]) (by kernel_rfl) (by simp) ?_
          refine AllReady.cons rfl (fun K hK => ?_) (AllReady.cons rfl (fun K hK => ?_) AllReady.nil)
          · go_simp
            refine hK _ _ ?_
            clear hK K
            refine wpAny_ready (rs := [10]) (by kernel_rfl) (by simp) ?_
            refine AllReady.cons rfl (fun K hK => ?_) AllReady.nil
            go_simp
            refine hK _ _ ?_
            clear hK K
            refine wpAny_ready (rs := [11]) (by kernel_rfl) (by simp) ?_
            refine AllReady.cons rfl (fun K hK => ?_) AllReady.nil
            go_simp
            refine hK _ _ ?_
            clear hK K
            refine wpAny_done (by kernel_rfl) ?_ _
            go_wp2_with fail
            go_meet
            obtain ⟨k1, k2, hb0, s0⟩ := @two_blocks w (.cells #[.bool false, .int .i64 0, .int .i64 0, .int .i64 0] 32) (.cells #[.int .i64 s, .int .i64 p, .int .i64 q] 26)
            exact ⟨rfl, hb0.drew, k1, k2⟩
          · go_simp
            refine hK _ _ ?_
            clear hK K
            refine wpAny_ready (rs := [9]) (by kernel_rfl) (by simp) ?_
            refine AllReady.cons rfl (fun K hK => ?_) AllReady.nil
            go_simp
            refine hK _ _ ?_
            clear hK K
            refine wpAny_ready (rs := [11]) (by kernel_rfl) (by simp) ?_
            refine AllReady.cons rfl (fun K hK => ?_) AllReady.nil
            go_simp
            refine hK _ _ ?_
            clear hK K
            refine wpAny_done (by kernel_rfl) ?_ _
            go_wp2_with fail
            go_meet
            obtain ⟨k1, k2, hb0, s0⟩ := @two_blocks w (.cells #[.bool false, .int .i64 0, .int .i64 0, .int .i64 0] 32) (.cells #[.int .i64 s, .int .i64 p, .int .i64 q] 26)
            exact ⟨rfl, hb0.drew, k1, k2⟩
        · go_simp
          refine hK _ _ ?_
          clear hK K
          refine wpAny_ready (rs := [8]) (by kernel_rfl) (by simp) ?_
          refine AllReady.cons rfl (fun K hK => ?_) AllReady.nil
          go_simp
          refine (L2 _ _ (by first | exact HAW.out _ | exact HAW2.out _ _)).mono ?_
          rintro e w' ⟨rfl, rfl⟩
          go_simp
          refine hK _ _ ?_
          clear hK K
          refine wpAny_ready (rs := [9]) (by kernel_rfl) (by simp) ?_
          refine AllReady.cons rfl (fun K hK => ?_) AllReady.nil
          go_simp
          refine hK _ _ ?_
          clear hK K
          refine wpAny_ready (rs := [11]) (by kernel_rfl) (by simp) ?_
          refine AllReady.cons rfl (fun K hK => ?_) AllReady.nil
          go_simp
          refine hK _ _ ?_
          clear hK K
          refine wpAny_done (by kernel_rfl) ?_ _
          go_wp2_with fail
          go_meet
          obtain ⟨k1, k2, hb0, s0⟩ := @two_blocks w (.cells #[.bool false, .int .i64 0, .int .i64 0, .int .i64 0] 32) (.cells #[.int .i64 s, .int .i64 p, .int .i64 q] 26)
          exact ⟨rfl, hb0.drew, k1, k2⟩
      · go_simp
        refine hK _ _ ?_
        clear hK K
        refine wpAny_ready (rs := [5]) (by kernel_rfl) (by simp) ?_
        refine AllReady.cons rfl (fun K hK => ?_) AllReady.nil
        go_simp
        refine (L1 _ _ (by first | exact HAW.out _ | exact HAW2.out _ _)).mono ?_
        rintro e w' ⟨rfl, rfl⟩
        go_simp
        refine hK _ _ ?_
        clear hK K
        refine wpAny_ready (rs := [8]) (by kernel_rfl) (by simp) ?_
        refine AllReady.cons rfl (fun K hK => ?_) AllReady.nil
        go_simp
        refine (L2 _ _ (by first | exact HAW.out _ | exact HAW2.out _ _)).mono ?_
        rintro e w' ⟨rfl, rfl⟩
        go_simp
        refine hK _ _ ?_
        clear hK K
        refine wpAny_ready (rs := [9]) (by kernel_rfl) (by simp) ?_
        refine AllReady.cons rfl (fun K hK => ?_) AllReady.nil
        go_simp
        refine hK _ _ ?_
        clear hK K
        refine wpAny_ready (rs := [11]) (by kernel_rfl) (by simp) ?_
        refine AllReady.cons rfl (fun K hK => ?_) AllReady.nil
        go_simp
        refine hK _ _ ?_
        clear hK K
        refine wpAny_done (by kernel_rfl) ?_ _
        go_wp2_with fail
        go_meet
        obtain ⟨k1, k2, hb0, s0⟩ := @two_blocks w (.cells #[.bool false, .int .i64 0, .int .i64 0, .int .i64 0] 32) (.cells #[.int .i64 s, .int .i64 p, .int .i64 q] 26)
        exact ⟨rfl, hb0.drew, k1, k2⟩
    · go_simp
      refine hK _ _ ?_
      clear hK K
      refine wpAny_ready (rs := [2]) (by kernel_rfl) (by simp) ?_
      refine AllReady.cons rfl (fun K hK => ?_) AllReady.nil
      go_simp
      refine (L0 _ _ (by first | exact HAW.out _ | exact HAW2.out _ _)).mono ?_
      rintro e w' ⟨rfl, rfl⟩
      go_simp
      refine hK _ _ ?_
      clear hK K
      refine wpAny_ready (rs := [5]) (by kernel_rfl) (by simp) ?_
      refine AllReady.cons rfl (fun K hK => ?_) AllReady.nil
      go_simp
      refine (L1 _ _ (by first | exact HAW.out _ | exact HAW2.out _ _)).mono ?_
      rintro e w' ⟨rfl, rfl⟩
      go_simp
      refine hK _ _ ?_
      clear hK K
      refine wpAny_ready (rs := [8]) (by kernel_rfl) (by simp) ?_
      refine AllReady.cons rfl (fun K hK => ?_) AllReady.nil
      go_simp
      refine (L2 _ _ (by first | exact HAW.out _ | exact HAW2.out _ _)).mono ?_
      rintro e w' ⟨rfl, rfl⟩
      go_simp
      refine hK _ _ ?_
      clear hK K
      refine wpAny_ready (rs := [9]) (by kernel_rfl) (by simp) ?_
      refine AllReady.cons rfl (fun K hK => ?_) AllReady.nil
      go_simp
      refine hK _ _ ?_
      clear hK K
      refine wpAny_ready (rs := [11]) (by kernel_rfl) (by simp) ?_
      refine AllReady.cons rfl (fun K hK => ?_) AllReady.nil
      go_simp
      refine hK _ _ ?_
      clear hK K
      refine wpAny_done (by kernel_rfl) ?_ _
      go_wp2_with fail
      go_meet
      obtain ⟨k1, k2, hb0, s0⟩ := @two_blocks w (.cells #[.bool false, .int .i64 0, .int .i64 0, .int .i64 0] 32) (.cells #[.int .i64 s, .int .i64 p, .int .i64 q] 26)
      exact ⟨rfl, hb0.drew, k1, k2⟩
  case rest =>
    obtain ⟨rfl, hB0, f1, f2⟩ := hcut
    clear hA0 c0 L0 L1 L2 HAW HAW2 q8 q10 q1 q2 q3
    have l2 := (Array.getElem?_eq_some_iff.1 f2).1
    have cB := HE.out wc.drew (HA.out.1.below hB0.drew)
    obtain ⟨t0, t1, t2⟩ := three_cells f2
    cases hd : decB xs
    · have hse := HSE.out.trans hd
      go_wp2_with fail
      refine wp_region_any (by kernel_rfl) ?_
      change wpAny _ _ _ _ _ _ _ (World.drew _)
      refine wpAny_take (i := 3) (v := .slice (some ⟨g, off, none⟩) 64 c) rfl (by kernel_rfl) (by kernel_rfl) (by kernel_rfl) (fun _ _ _ h => h) (Or.inl ⟨rfl, fun W => by go_simp⟩) ?_
      refine wpAny_ready (rs := [0, 4]) (by kernel_rfl) (by simp) ?_
      refine AllReady.cons rfl (fun K hK => ?_) (AllReady.cons rfl (fun K hK => ?_) AllReady.nil)
      · go_simp
        refine hK _ _ ?_
        clear hK K
        refine wpAny_ready (rs := [1, 4]) (by kernel_rfl) (by simp) ?_
        refine AllReady.cons rfl (fun K hK => ?_) (AllReady.cons rfl (fun K hK => ?_) AllReady.nil)
        · go_simp
          refine (encodeHeader_spec s p q _).mono ?_
          rintro e w2 ⟨v, rfl, hown, hb2⟩
          obtain ⟨a5, c5, rfl, r5⟩ := owns_row hown
          have hb2' : Below wc.heap.size wc w2 := (Below.refl wc.heap.size wc).drew.trans (show Below wc.heap.size wc.drew w2 from hb2)
          have cE := conv_str c5 r5.read (encH_byt s p q)
          have hB2 : Below w.heap.size w w2 := hB0.trans (hb2'.mono hB0.size)
          have cB2 := HE.out w2 (HA.out.1.below hB2)
          have g2 := (hb2'.block (w.heap.size + 1) l2).trans f2
          have g1 := (hb2'.block w.heap.size (by omega)).trans f1
          obtain ⟨d0, d1, d2⟩ := three_cells g2
          obtain ⟨⟨y0, y1, y2, y3⟩, z0, z1, z2, z3⟩ := cells4 g1
          clear hown hb2 r5 t0 t1 t2
          generalize (encH s p q).length = nn at *
          generalize strOf (encH s p q) = SE at *
          go_simp
          refine hK _ _ ?_
          clear hK K
          refine wpAny_ready (rs := [2, 4]) (by kernel_rfl) (by simp) ?_
          refine AllReady.cons rfl (fun K hK => ?_) (AllReady.cons rfl (fun K hK => ?_) AllReady.nil)
          · go_simp
            refine hK _ _ ?_
            clear hK K
            refine wpAny_ready (rs := [4]) (by kernel_rfl) (by simp) ?_
            refine AllReady.cons rfl (fun K hK => ?_) AllReady.nil
            go_simp
            refine hK _ _ ?_
            clear hK K
            refine wpAny_ready (rs := [5]) (by kernel_rfl) (by simp) ?_
            refine AllReady.cons rfl (fun K hK => ?_) AllReady.nil
            go_simp
            refine hK _ _ ?_
            clear hK K
            refine wpAny_done (by kernel_rfl) ?_ _
            go_wp2
            refine bodyPost_ret (v := .agg #[.bool false, .int .i64 0, .int .i64 0, .int .i64 0]) (by simp [results, Try.results18, go_sem, y0, y1, y2, y3]) rfl ?_
            exact ⟨by rw [HN.out hd], (((hB2.setCell (Nat.le_refl _) _).setCell (Nat.le_refl _) _).setCell (Nat.le_refl _) _).setCell (Nat.le_refl _) _⟩
          · go_simp
            refine hK _ _ ?_
            clear hK K
            refine wpAny_ready (rs := [2]) (by kernel_rfl) (by simp) ?_
            refine AllReady.cons rfl (fun K hK => ?_) AllReady.nil
            go_simp
            refine hK _ _ ?_
            clear hK K
            refine wpAny_ready (rs := [5]) (by kernel_rfl) (by simp) ?_
            refine AllReady.cons rfl (fun K hK => ?_) AllReady.nil
            go_simp
            refine hK _ _ ?_
            clear hK K
            refine wpAny_done (by kernel_rfl) ?_ _
            go_wp2
            refine bodyPost_ret (v := .agg #[.bool false, .int .i64 0, .int .i64 0, .int .i64 0]) (by simp [results, Try.results18, go_sem, y0, y1, y2, y3]) rfl ?_
            exact ⟨by rw [HN.out hd], (((hB2.setCell (Nat.le_refl _) _).setCell (Nat.le_refl _) _).setCell (Nat.le_refl _) _).setCell (Nat.le_refl _) _⟩
        · go_simp
          refine hK _ _ ?_
          clear hK K
          refine wpAny_ready (rs := [1]) (by kernel_rfl) (by simp) ?_
          refine AllReady.cons rfl (fun K hK => ?_) AllReady.nil
          go_simp
          refine (encodeHeader_spec s p q _).mono ?_
          rintro e w2 ⟨v, rfl, hown, hb2⟩
          obtain ⟨a5, c5, rfl, r5⟩ := owns_row hown
          have hb2' : Below wc.heap.size wc w2 := (Below.refl wc.heap.size wc).drew.trans (show Below wc.heap.size wc.drew w2 from hb2)
          have cE := conv_str c5 r5.read (encH_byt s p q)
          have hB2 : Below w.heap.size w w2 := hB0.trans (hb2'.mono hB0.size)
          have cB2 := HE.out w2 (HA.out.1.below hB2)
          have g2 := (hb2'.block (w.heap.size + 1) l2).trans f2
          have g1 := (hb2'.block w.heap.size (by omega)).trans f1
          obtain ⟨d0, d1, d2⟩ := three_cells g2
          obtain ⟨⟨y0, y1, y2, y3⟩, z0, z1, z2, z3⟩ := cells4 g1
          clear hown hb2 r5 t0 t1 t2
          generalize (encH s p q).length = nn at *
          generalize strOf (encH s p q) = SE at *
          go_simp
          refine hK _ _ ?_
          clear hK K
          refine wpAny_ready (rs := [2]) (by kernel_rfl) (by simp) ?_
          refine AllReady.cons rfl (fun K hK => ?_) AllReady.nil
          go_simp
          refine hK _ _ ?_
          clear hK K
          refine wpAny_ready (rs := [5]) (by kernel_rfl) (by simp) ?_
          refine AllReady.cons rfl (fun K hK => ?_) AllReady.nil
          go_simp
          refine hK _ _ ?_
          clear hK K
          refine wpAny_done (by kernel_rfl) ?_ _
          go_wp2
          refine bodyPost_ret (v := .agg #[.bool false, .int .i64 0, .int .i64 0, .int .i64 0]) (by simp [results, Try.results18, go_sem, y0, y1, y2, y3]) rfl ?_
          exact ⟨by rw [HN.out hd], (((hB2.setCell (Nat.le_refl _) _).setCell (Nat.le_refl _) _).setCell (Nat.le_refl _) _).setCell (Nat.le_refl _) _⟩
      · go_simp
        refine hK _ _ ?_
        clear hK K
        refine wpAny_ready (rs := [0]) (by kernel_rfl) (by simp) ?_
        refine AllReady.cons rfl (fun K hK => ?_) AllReady.nil
        go_simp
        refine hK _ _ ?_
        clear hK K
        refine wpAny_ready (rs := [1]) (by kernel_rfl) (by simp) ?_
        refine AllReady.cons rfl (fun K hK => ?_) AllReady.nil
        go_simp
        refine (encodeHeader_spec s p q _).mono ?_
        rintro e w2 ⟨v, rfl, hown, hb2⟩
        obtain ⟨a5, c5, rfl, r5⟩ := owns_row hown
        have hb2' : Below wc.heap.size wc w2 := (Below.refl wc.heap.size wc).drew.trans (show Below wc.heap.size wc.drew w2 from hb2)
        have cE := conv_str c5 r5.read (encH_byt s p q)
        have hB2 : Below w.heap.size w w2 := hB0.trans (hb2'.mono hB0.size)
        have cB2 := HE.out w2 (HA.out.1.below hB2)
        have g2 := (hb2'.block (w.heap.size + 1) l2).trans f2
        have g1 := (hb2'.block w.heap.size (by omega)).trans f1
        obtain ⟨d0, d1, d2⟩ := three_cells g2
        obtain ⟨⟨y0, y1, y2, y3⟩, z0, z1, z2, z3⟩ := cells4 g1
        clear hown hb2 r5 t0 t1 t2
        generalize (encH s p q).length = nn at *
        generalize strOf (encH s p q) = SE at *
        go_simp
        refine hK _ _ ?_
        clear hK K
        refine wpAny_ready (rs := [2]) (by kernel_rfl) (by simp) ?_
        refine AllReady.cons rfl (fun K hK => ?_) AllReady.nil
        go_simp
        refine hK _ _ ?_
        clear hK K
        refine wpAny_ready (rs := [5]) (by kernel_rfl) (by simp) ?_
        refine AllReady.cons rfl (fun K hK => ?_) AllReady.nil
        go_simp
        refine hK _ _ ?_
        clear hK K
        refine wpAny_done (by kernel_rfl) ?_ _
        go_wp2
        refine bodyPost_ret (v := .agg #[.bool false, .int .i64 0, .int .i64 0, .int .i64 0]) (by simp [results, Try.results18, go_sem, y0, y1, y2, y3]) rfl ?_
        exact ⟨by rw [HN.out hd], (((hB2.setCell (Nat.le_refl _) _).setCell (Nat.le_refl _) _).setCell (Nat.le_refl _) _).setCell (Nat.le_refl _) _⟩
    · have hse := HSE.out.trans hd
      go_wp2_with fail
      refine wp_region_any (by kernel_rfl) ?_
      change wpAny _ _ _ _ _ _ _ (World.drew _)
      refine wpAny_take (i := 3) (v := .slice (some ⟨g, off, none⟩) 64 c) rfl (by kernel_rfl) (by kernel_rfl) (by kernel_rfl) (fun _ _ _ h => h) (Or.inl ⟨rfl, fun W => by go_simp⟩) ?_
      refine wpAny_ready (rs := [0, 4]) (by kernel_rfl) (by simp) ?_
      refine AllReady.cons rfl (fun K hK => ?_) (AllReady.cons rfl (fun K hK => ?_) AllReady.nil)
      · go_simp
        refine hK _ _ ?_
        clear hK K
        refine wpAny_ready (rs := [1, 4]) (by kernel_rfl) (by simp) ?_
        refine AllReady.cons rfl (fun K hK => ?_) (AllReady.cons rfl (fun K hK => ?_) AllReady.nil)
        · go_simp
          refine (encodeHeader_spec s p q _).mono ?_
          rintro e w2 ⟨v, rfl, hown, hb2⟩
          obtain ⟨a5, c5, rfl, r5⟩ := owns_row hown
          have hb2' : Below wc.heap.size wc w2 := (Below.refl wc.heap.size wc).drew.trans (show Below wc.heap.size wc.drew w2 from hb2)
          have cE := conv_str c5 r5.read (encH_byt s p q)
          have hB2 : Below w.heap.size w w2 := hB0.trans (hb2'.mono hB0.size)
          have cB2 := HE.out w2 (HA.out.1.below hB2)
          have g2 := (hb2'.block (w.heap.size + 1) l2).trans f2
          have g1 := (hb2'.block w.heap.size (by omega)).trans f1
          obtain ⟨d0, d1, d2⟩ := three_cells g2
          obtain ⟨⟨y0, y1, y2, y3⟩, z0, z1, z2, z3⟩ := cells4 g1
          clear hown hb2 r5 t0 t1 t2
          generalize (encH s p q).length = nn at *
          generalize strOf (encH s p q) = SE at *
          go_simp
          refine hK _ _ ?_
          clear hK K
          refine wpAny_ready (rs := [2, 4]) (by kernel_rfl) (by simp) ?_
          refine AllReady.cons rfl (fun K hK => ?_) (AllReady.cons rfl (fun K hK => ?_) AllReady.nil)
          · go_simp
            refine hK _ _ ?_
            clear hK K
            refine wpAny_ready (rs := [4]) (by kernel_rfl) (by simp) ?_
            refine AllReady.cons rfl (fun K hK => ?_) AllReady.nil
            go_simp
            refine hK _ _ ?_
            clear hK K
            refine wpAny_ready (rs := [5]) (by kernel_rfl) (by simp) ?_
            refine AllReady.cons rfl (fun K hK => ?_) AllReady.nil
            go_simp
            refine hK _ _ ?_
            clear hK K
            refine wpAny_done (by kernel_rfl) ?_ _
            go_wp2
            refine bodyPost_ret (v := .agg #[.bool true, .int .i64 s, .int .i64 p, .int .i64 q]) (by simp [results, Try.results18, go_sem, y0, y1, y2, y3]) rfl ?_
            exact ⟨by rw [HY.out hd], (((hB2.setCell (Nat.le_refl _) _).setCell (Nat.le_refl _) _).setCell (Nat.le_refl _) _).setCell (Nat.le_refl _) _⟩
          · go_simp
            refine hK _ _ ?_
            clear hK K
            refine wpAny_ready (rs := [2]) (by kernel_rfl) (by simp) ?_
            refine AllReady.cons rfl (fun K hK => ?_) AllReady.nil
            go_simp
            refine hK _ _ ?_
            clear hK K
            refine wpAny_ready (rs := [5]) (by kernel_rfl) (by simp) ?_
            refine AllReady.cons rfl (fun K hK => ?_) AllReady.nil
            go_simp
            refine hK _ _ ?_
            clear hK K
            refine wpAny_done (by kernel_rfl) ?_ _
            go_wp2
            refine bodyPost_ret (v := .agg #[.bool true, .int .i64 s, .int .i64 p, .int .i64 q]) (by simp [results, Try.results18, go_sem, y0, y1, y2, y3]) rfl ?_
            exact ⟨by rw [HY.out hd], (((hB2.setCell (Nat.le_refl _) _).setCell (Nat.le_refl _) _).setCell (Nat.le_refl _) _).setCell (Nat.le_refl _) _⟩
        · go_simp
          refine hK _ _ ?_
          clear hK K
          refine wpAny_ready (rs := [1]) (by kernel_rfl) (by simp) ?_
          refine AllReady.cons rfl (fun K hK => ?_) AllReady.nil
          go_simp
          refine (encodeHeader_spec s p q _).mono ?_
          rintro e w2 ⟨v, rfl, hown, hb2⟩
          obtain ⟨a5, c5, rfl, r5⟩ := owns_row hown
          have hb2' : Below wc.heap.size wc w2 := (Below.refl wc.heap.size wc).drew.trans (show Below wc.heap.size wc.drew w2 from hb2)
          have cE := conv_str c5 r5.read (encH_byt s p q)
          have hB2 : Below w.heap.size w w2 := hB0.trans (hb2'.mono hB0.size)
          have cB2 := HE.out w2 (HA.out.1.below hB2)
          have g2 := (hb2'.block (w.heap.size + 1) l2).trans f2
          have g1 := (hb2'.block w.heap.size (by omega)).trans f1
          obtain ⟨d0, d1, d2⟩ := three_cells g2
          obtain ⟨⟨y0, y1, y2, y3⟩, z0, z1, z2, z3⟩ := cells4 g1
          clear hown hb2 r5 t0 t1 t2
          generalize (encH s p q).length = nn at *
          generalize strOf (encH s p q) = SE at *
          go_simp
          refine hK _ _ ?_
          clear hK K
          refine wpAny_ready (rs := [2]) (by kernel_rfl) (by simp) ?_
          refine AllReady.cons rfl (fun K hK => ?_) AllReady.nil
          go_simp
          refine hK _ _ ?_
          clear hK K
          refine wpAny_ready (rs := [5]) (by kernel_rfl) (by simp) ?_
          refine AllReady.cons rfl (fun K hK => ?_) AllReady.nil
          go_simp
          refine hK _ _ ?_
          clear hK K
          refine wpAny_done (by kernel_rfl) ?_ _
          go_wp2
          refine bodyPost_ret (v := .agg #[.bool true, .int .i64 s, .int .i64 p, .int .i64 q]) (by simp [results, Try.results18, go_sem, y0, y1, y2, y3]) rfl ?_
          exact ⟨by rw [HY.out hd], (((hB2.setCell (Nat.le_refl _) _).setCell (Nat.le_refl _) _).setCell (Nat.le_refl _) _).setCell (Nat.le_refl _) _⟩
      · go_simp
        refine hK _ _ ?_
        clear hK K
        refine wpAny_ready (rs := [0]) (by kernel_rfl) (by simp) ?_
        refine AllReady.cons rfl (fun K hK => ?_) AllReady.nil
        go_simp
        refine hK _ _ ?_
        clear hK K
        refine wpAny_ready (rs := [1]) (by kernel_rfl) (by simp) ?_
        refine AllReady.cons rfl (fun K hK => ?_) AllReady.nil
        go_simp
        refine (encodeHeader_spec s p q _).mono ?_
        rintro e w2 ⟨v, rfl, hown, hb2⟩
        obtain ⟨a5, c5, rfl, r5⟩ := owns_row hown
        have hb2' : Below wc.heap.size wc w2 := (Below.refl wc.heap.size wc).drew.trans (show Below wc.heap.size wc.drew w2 from hb2)
        have cE := conv_str c5 r5.read (encH_byt s p q)
        have hB2 : Below w.heap.size w w2 := hB0.trans (hb2'.mono hB0.size)
        have cB2 := HE.out w2 (HA.out.1.below hB2)
        have g2 := (hb2'.block (w.heap.size + 1) l2).trans f2
        have g1 := (hb2'.block w.heap.size (by omega)).trans f1
        obtain ⟨d0, d1, d2⟩ := three_cells g2
        obtain ⟨⟨y0, y1, y2, y3⟩, z0, z1, z2, z3⟩ := cells4 g1
        clear hown hb2 r5 t0 t1 t2
        generalize (encH s p q).length = nn at *
        generalize strOf (encH s p q) = SE at *
        go_simp
        refine hK _ _ ?_
        clear hK K
        refine wpAny_ready (rs := [2]) (by kernel_rfl) (by simp) ?_
        refine AllReady.cons rfl (fun K hK => ?_) AllReady.nil
        go_simp
        refine hK _ _ ?_
        clear hK K
        refine wpAny_ready (rs := [5]) (by kernel_rfl) (by simp) ?_
        refine AllReady.cons rfl (fun K hK => ?_) AllReady.nil
        go_simp
        refine hK _ _ ?_
        clear hK K
        refine wpAny_done (by kernel_rfl) ?_ _
        go_wp2
        refine bodyPost_ret (v := .agg #[.bool true, .int .i64 s, .int .i64 p, .int .i64 q]) (by simp [results, Try.results18, go_sem, y0, y1, y2, y3]) rfl ?_
        exact ⟨by rw [HY.out hd], (((hB2.setCell (Nat.le_refl _) _).setCell (Nat.le_refl _) _).setCell (Nat.le_refl _) _).setCell (Nat.le_refl _) _⟩
end Go.Proofs.Ytkkammbfomiofac
