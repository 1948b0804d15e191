/-
  FnSpace: the table of a formatted disk.
-/
import Derived.Test.YtonpdbajoidigaaGreatDoorGu
import Derived.Test.YtonpdbajoidigaaGreatDoorGq
import Derived.Test.YtonpdbajoidigaaGreatDoorSqc
import Derived.BigRegion
namespace Go.Proofs.YtonpdbajoidigaaGreatDoor
open Go.RowKit
set_option linter.unusedSimpArgs false
set_option linter.unusedVariables false

theorem ent_zero (n i : Nat) (h : i < n) : entI (List.replicate (2 * n) 0) i = (0, false) := by
  have : ent2 ((List.replicate (2 * n) (0 : Int)).drop (2 * i)) = 0 := by
    obtain ⟨m, hm⟩ : ∃ m, 2 * n - 2 * i = m + 2 := ⟨2 * n - 2 * i - 2, by omega⟩
    rw [List.drop_replicate, hm]
    rfl
  unfold entI
  rw [this]
  rfl
theorem ents_zero (n : Nat) : ents (List.replicate (2 * n) 0) n = List.replicate n (0, false) := by
  unfold ents
  apply List.ext_getElem (by simp)
  intro i h1 h2
  simp at h1
  simp [ent_zero n i h1]
theorem tab_zero (n : Nat) (h : n ≤ 1024) : tabB (List.replicate (2 * n) 0) = true := by
  refine tab_good (by simp; omega) n (by simp) fun i hi => ?_
  unfold okI
  rw [ent_zero n i hi]
  rfl
theorem z64_step (k : Nat) : List.replicate (64 * (k + 1)) (0 : Int) = List.replicate (64 * k) 0 ++ List.replicate 64 0 := by
  rw [List.replicate_append_replicate]
  congr 1
set_option maxRecDepth 100000 in
set_option maxHeartbeats 4000000 in
theorem readTable_fmt (B C nb M : Nat) (rd : Int → List Int) (S : Nat) (b : Int) (T n : Nat) (w : World) (hD : DS B w C nb M 256 rd) (hnb : nb ≤ 4096) (hv : vG (S : Int) b = true) (hn : (n : Int) = S * b) (hT : nblk (2 * ((S : Int) * b)) = (T : Int)) (hT3 : T ≤ 33) (hr : ∀ i : Nat, i < T → rd (1 + (T : Int) + 1 + i) = List.replicate 64 0) (hnT : 2 * (1 + (T : Int)) ≤ (nb : Int)) :
    Calls Tryz.prog 39 #[.pointer (some ⟨C, 0, none⟩), .agg #[.int .i64 (S : Int), .int .i64 b], .int .i64 1] w fun e w' => (∃ gt tc, e = .returned (.tuple #[.slice (some ⟨gt, 0, none⟩) n tc, .bool true]) ∧ TAt w.heap.size w' gt tc n (List.replicate n (0, false))) ∧ Below w.heap.size w w' := by
  obtain ⟨i0, hi, hz0, hz1, hz2⟩ := info_parts info5
  obtain ⟨ib, hib, hzb, _, _⟩ := info_parts info74z
  have hzv : ∀ V, (zeroValue 74).run Tryz.prog V = .ok (.agg z64.toArray) V := fun V => by simp [zeroValue, typeInfo, hib, hzb]
  obtain ⟨W1, hW1⟩ : ∃ W1, w.alloc (.cells #[.int .i64 (S : Int), .int .i64 b] 25) = W1 := ⟨_, rfl⟩
  have hb1 : Below w.heap.size w W1 := by rw [← hW1]; exact (Below.refl _ _).alloc (Nat.le_refl _) _
  have k1 : W1.heap[w.heap.size]? = some (.cells #[.int .i64 (S : Int), .int .i64 b] 25 (0, 0)) := by rw [← hW1]; exact heap_alloc_new w _
  have l1 : w.heap.size < W1.heap.size := (Array.getElem?_eq_some_iff.1 k1).1
  obtain ⟨⟨x0, x1⟩, _⟩ := cells2g k1
  have hm := vG_mul hv
  have HY : Hid (∀ V, Calls Tryz.prog 13 #[.agg #[.int .i64 (S : Int), .int .i64 b]] V fun e w' => (∃ x2 x3 x4, e = .returned (.agg #[.int .i64 (n : Int), .int .i64 (T : Int), .int .i64 x2, .int .i64 x3, .int .i64 x4])) ∧ Below V.heap.size V w') := fun V => by
    have := layout_impl (S : Int) b V
    unfold layA at this
    rw [hv, if_pos rfl, hT, ← hn] at this
    exact this.mono fun e w' ⟨h1, h2⟩ => ⟨⟨_, _, _, h1⟩, h2⟩
  have hn1 : 8 ≤ n ∧ n ≤ 1024 := by omega
  have hnt : 2 * n ≤ 64 * T := by unfold nblk at hT; omega
  have HRS : Hid (∀ x0 x2 x3 x4 V, Calls Tryz.prog 16 #[.int .i64 1, .agg #[.int .i64 x0, .int .i64 (T : Int), .int .i64 x2, .int .i64 x3, .int .i64 x4]] V fun e w' => e = .returned (.int .i64 (1 + (T : Int))) ∧ Below V.heap.size V w') := fun x0 x2 x3 x4 V => regionStart_gen 1 x0 T x2 x3 x4 V (by omega) (by omega) (by omega) (by omega)
  have HRD : Hid (∀ (k : Nat) V, k < T → Below w.heap.size w V → Calls Tryz.prog 61 #[.pointer (some ⟨C, 0, none⟩), .int .i64 (1 + (T : Int) + 1 + k)] V fun e w' => e = .returned (.agg (u8s (List.replicate 64 0)).toArray) ∧ Below V.heap.size V w') := fun k V hk hV => by
    have := dread_any B C nb M 256 rd (1 + (T : Int) + 1 + k) V (hD.kd (S := fun _ => False) hV) (by omega) hnb (by omega) (by omega)
    rw [hr k hk] at this
    exact this
  have HGA : Hid (∀ V a c, ERead V a n (List.replicate n (0, false)) → Calls Tryz.prog 65 #[.slice a n c, .agg #[.int .i64 (S : Int), .int .i64 b]] V fun e w' => e = .returned (.bool true) ∧ Below V.heap.size V w') := fun V a c h => goodAddr_zero a n c _ S b V h (by omega) (fun i hi => by simp [eA, hi])
  have HB1 := Lib.hid (And.intro hb1 k1)
  obtain ⟨X, hX⟩ : ∃ X : List Int, List.replicate 64 0 = X := ⟨_, rfl⟩
  have hXL : X.length = 64 := by rw [← hX]; simp
  have HXS : Hid (∀ k, List.replicate (64 * (k + 1)) (0 : Int) = List.replicate (64 * k) 0 ++ X) := fun k => by rw [z64_step, hX]
  rw [hX] at HRD
  have hXs : (u8s X).toArray.size = 64 := by rw [List.size_toArray, u8s_len, hXL]
  have h1X : (u8s X).toArray.all (·.oneCell') = true := by
    rw [Array.all_eq_true_iff_forall_mem]
    intro x hx
    exact many_u8 _ x (by simpa using hx)
  have HXL := Lib.hid hXL
  clear hD hv hT hr hb1 k1 hib hzb hn hm hX hXL
  go_enter Tryz.func39, Tryz.ntmps39
  go_wp2_with fail
  refine (HY.out _).mono ?_
  rintro e w2 ⟨⟨y2, y3, y4, rfl⟩, hb2⟩
  obtain ⟨W3, hW3⟩ : ∃ W3, w2.alloc (.cells #[.int .i64 0, .int .i64 0, .int .i64 0, .int .i64 0, .int .i64 0] 57) = W3 := ⟨_, rfl⟩
  have k3 : W3.heap[w2.heap.size]? = some (.cells #[.int .i64 0, .int .i64 0, .int .i64 0, .int .i64 0, .int .i64 0] 57 (0, 0)) := by rw [← hW3]; exact heap_alloc_new w2 _
  have hb3 : Below W1.heap.size W1 W3 := by rw [← hW3]; exact hb2.alloc hb2.size _
  obtain ⟨⟨a30, a31, a32, a33, a34⟩, f3⟩ := five_ofR k3
  have f30 := f3 0
  have f31 := f3 1
  have f32 := f3 2
  have f33 := f3 3
  have f34 := f3 4
  have l3 : w2.heap.size < W3.heap.size := (Array.getElem?_eq_some_iff.1 k3).1
  obtain ⟨W4, hW4⟩ : ∃ W4, ((((W3.setCell ⟨w2.heap.size, 0, none⟩ (.int .i64 (n : Int))).setCell ⟨w2.heap.size, 1, none⟩ (.int .i64 (T : Int))).setCell ⟨w2.heap.size, 2, none⟩ (.int .i64 y2)).setCell ⟨w2.heap.size, 3, none⟩ (.int .i64 y3)).setCell ⟨w2.heap.size, 4, none⟩ (.int .i64 y4) = W4 := ⟨_, rfl⟩
  have k4 : W4.heap[w2.heap.size]? = some (.cells #[.int .i64 (n : Int), .int .i64 (T : Int), .int .i64 y2, .int .i64 y3, .int .i64 y4] 57 (0, 0)) := by rw [← hW4]; exact five_set k3 _ _ _ _ _
  have hb4 : Below W1.heap.size W1 W4 := by
    have hs := hb2.size
    rw [← hW4]
    exact ((((hb3.setCell (p := ⟨w2.heap.size, 0, none⟩) hs _).setCell (p := ⟨w2.heap.size, 1, none⟩) hs _).setCell (p := ⟨w2.heap.size, 2, none⟩) hs _).setCell (p := ⟨w2.heap.size, 3, none⟩) hs _).setCell (p := ⟨w2.heap.size, 4, none⟩) hs _
  have l4 : w2.heap.size < W4.heap.size := (Array.getElem?_eq_some_iff.1 k4).1
  obtain ⟨⟨a40, a41, a42, a43, a44⟩, _⟩ := five_ofR k4
  have l41 : w.heap.size < W4.heap.size := by have := hb4.size; omega
  have HB4 : Hid (Below w.heap.size w W4 ∧ W4.heap[w2.heap.size]? = some (.cells #[.int .i64 (n : Int), .int .i64 (T : Int), .int .i64 y2, .int .i64 y3, .int .i64 y4] 57 (0, 0)) ∧ W4.heap[w.heap.size]? = some (.cells #[.int .i64 (S : Int), .int .i64 b] 25 (0, 0))) := ⟨HB1.out.1.trans (hb4.mono HB1.out.1.size), k4, (hb4.block _ l1).trans HB1.out.2⟩
  have HI : Hid ((W4.alloc (.cells #[] 5)).ownsRow W4.heap.size 5 1 (.slice (some ⟨W4.heap.size, 0, none⟩) 0 0) 0 (u8s (List.replicate (64 * 0) 0)) ∧ Below W4.heap.size W4 (W4.alloc (.cells #[] 5))) := ⟨⟨rfl, .inr ⟨_, 0, #[], rfl, Nat.le_refl _, heap_alloc_new W4 _, Nat.le_refl _, Nat.zero_le _, rfl, rfl⟩⟩, (Below.refl _ _).alloc (Nat.le_refl _) _⟩
  clear hb2 hb3 hb4 k3 k4 f3 HB1
  go_wp2
  go_loopw [9, 18] (fun dv i wr => ∃ k : Nat, k ≤ T ∧ i = .int .i64 k ∧ ∃ a c, dv = .slice a (64 * k) c ∧ Hid (wr.ownsRow W4.heap.size 5 1 (.slice a (64 * k) c) (64 * k) (u8s (List.replicate (64 * k) 0)) ∧ Below W4.heap.size W4 wr)) (fun _ i _ => T - (intOf i).toNat)
  case atStart => exact ⟨0, Nat.zero_le _, rfl, _, _, rfl, HI.out⟩
  case round =>
    obtain ⟨k, hk, rfl, a, c, rfl, HS⟩ := hrel
    clear HI
    obtain ⟨⟨c0, c1, c2, c3, c4⟩, _⟩ := five_ofR ((HS.out.2.block _ l4).trans HB4.out.2.1)
    obtain ⟨⟨g0, g1⟩, _⟩ := cells2g ((HS.out.2.block _ l41).trans HB4.out.2.2)
    have lwr : W4.heap.size ≤ wr.heap.size := HS.out.2.size
    clear a30 a31 a32 a33 a34 a40 a41 a42 a43 a44
    by_cases hlt : k < T
    · have hlt' : (k : Int) < (T : Int) := by omega
      have h0' : (0 : Int) ≤ (k : Int) := by omega
      go_wp2_with fail
      refine (HRS.out _ _ _ _ wr).mono ?_
      rintro e w5 ⟨rfl, hb5⟩
      have HB5 : Hid (Below wr.heap.size wr w5 ∧ Below w.heap.size w w5) := ⟨hb5, HB4.out.1.trans ((HS.out.2.trans (hb5.mono lwr)).mono HB4.out.1.size)⟩
      clear hb5
      go_wp2_with fail
      refine (HRD.out k w5 hlt HB5.out.2).mono ?_
      rintro e w6 ⟨rfl, hb6⟩
      obtain ⟨W7, hW7⟩ : ∃ W7, w6.alloc (.cells z64.toArray 74) = W7 := ⟨_, rfl⟩
      have hb7 : Below w6.heap.size w6 W7 := by rw [← hW7]; exact (Below.refl _ _).alloc (Nat.le_refl _) _
      have k7 : W7.heap[w6.heap.size]? = some (.cells z64.toArray 74 (0, 0)) := by rw [← hW7]; exact heap_alloc_new w6 _
      obtain ⟨W8, hW8⟩ : ∃ W8, W7.setRow w6.heap.size (u8s X).toArray = W8 := ⟨_, rfl⟩
      have k8 : W8.heap[w6.heap.size]? = some (.cells (u8s X).toArray 74 (0, 0)) := by rw [← hW8]; exact setRow_heap W7 w6.heap.size _ _ 74 _ k7
      have hb6' : Below wr.heap.size wr w6 := HB5.out.1.trans (hb6.mono HB5.out.1.size)
      have hb8 : Below wr.heap.size wr W8 := by rw [← hW8]; exact below_setRow (hb6'.trans (hb7.mono hb6'.size)) hb6'.size _
      have own8 := owns_below HS.out.1 hb8
      have hB8 : Below W4.heap.size W4 W8 := HS.out.2.trans (hb8.mono HS.out.2.size)
      have HN : Hid (∀ j u, (u8s X)[j]? = some u → W8.cell? ((⟨w6.heap.size, 0, none⟩ : Addr).add j) = some u) := fun j u hu => by
        rw [Addr.add_mid, Nat.zero_add]
        have := range_of_heap k8 j u hu
        simpa using this
      have HO8 := Lib.hid (And.intro own8 hB8)
      have HX1 := Lib.hid (HXS.out k)
      clear hb6 hb7 hb6' hb8 own8 hB8 k8 HS HB5 c0 c1 c2 c3 c4 g0 g1
      go_wp2_with (first
        | (refine wpList_store_row rfl 74 _ _ rfl w6.heap.size (u8s X).toArray rfl rfl 74 _ k7 (by rw [hXs]; exact info74b) (by rw [hXs]; rfl) h1X ?_; rw [hW8])
        | (at_builtin; refine wpList_append_own _ rfl _ _ 22 rfl W4.heap.size 5 i0 (.int .u8 0) 1 1 Tryz.underlying22 hi hz0 hz1 hz2 rfl (by decide) _ _ _ rfl HO8.out.1 ⟨w6.heap.size, 0, none⟩ 64 64 (u8s X) rfl (by rw [u8s_len, HXL.out]) HN.out (many_u8 _) (by unfold maxLen; omega) (by omega) HO8.out.2.size ?_))
      intro v9 w9 own9 grow9 _
      obtain ⟨a9, c9, rfl⟩ := owns_shape own9
      have HO9 : Hid (w9.ownsRow W4.heap.size 5 1 (.slice a9 (64 * (k + 1)) c9) (64 * (k + 1)) (u8s (List.replicate (64 * (k + 1)) 0)) ∧ Below W4.heap.size W4 w9) := by
        refine ⟨?_, HO8.out.2.grown grow9 HO8.out.2.size (fun g hg => (HO8.out.1.lt g hg).1)⟩
        rw [HX1.out, u8s_append]
        exact own9
      clear own9 grow9 HO8 HN k7
      go_wp2
      go_roundw
      case rel => exact ⟨k + 1, by omega, by go_num, a9, c9, rfl, HO9⟩
      case measure => simp [intOf]; omega
    · obtain rfl : k = T := by omega
      have hcap := owns_capZ HS.out.1
      have hBw : Below w.heap.size w wr := HB4.out.1.trans (HS.out.2.mono HB4.out.1.size)
      have HDT : Hid (Calls Tryz.prog 64 #[.slice a (2 * n) c] wr fun e w' => ∃ gt tc, e = .returned (.agg #[.bool true, .slice (some ⟨gt, 0, none⟩) n tc]) ∧ TAt wr.heap.size w' gt tc n (List.replicate n (0, false)) ∧ Below wr.heap.size wr w') := by
        obtain ⟨a', c', e, hR⟩ := owns_row HS.out.1
        injection e with e1 e2 e3
        subst e1; subst e3
        have hrow : IRow .u8 wr a (2 * n) (List.replicate (2 * n) 0) := by
          refine ⟨by simp, ?_⟩
          rcases hR.read.2 with h0 | ⟨g, off, rfl, hc⟩
          · omega
          · refine .inr ⟨g, off, rfl, fun i hi => ?_⟩
            have := hc i (by omega)
            rw [this]
            simp [show i < 64 * k by omega, hi]
        refine (decodeTable_short a (2 * n) c (List.replicate (2 * n) 0) wr hrow (fun i hi => by simp [hi]) (by omega) (by omega) (by omega)).mono ?_
        rintro e w' ⟨v, rfl, h1, h2, h3⟩
        rw [tab_zero n (by omega)] at h1 ⊢
        have h4 := h1 rfl
        rw [show 2 * n / 2 = n by omega, ents_zero] at h4
        have h4' := h4
        rcases h4'.2 with ⟨_, h0⟩ | ⟨g, cap, cur, rfl, _⟩
        · omega
        · exact ⟨g, cap, rfl, h4, h3⟩
      have HBW := Lib.hid hBw
      have h2n : (2 * (n : Int)).toNat = 2 * n := by omega
      have h2c : 2 * (n : Int) ≤ (c : Int) := by omega
      have h20 : (0 : Int) ≤ 2 * (n : Int) := by omega
      have HGW := Lib.hid ((HS.out.2.block _ l41).trans HB4.out.2.2)
      have lgw : w.heap.size < wr.heap.size := (Array.getElem?_eq_some_iff.1 HGW.out).1
      clear hBw HS hcap
      go_wp2_with fail
      refine HDT.out.mono ?_
      rintro e w5 ⟨gt, tc, rfl, hT5, hb5⟩
      obtain ⟨W6, hW6⟩ : ∃ W6, w5.alloc (.cells #[.bool false, .slice none 0 0] 141) = W6 := ⟨_, rfl⟩
      have k6 : W6.heap[w5.heap.size]? = some (.cells #[.bool false, .slice none 0 0] 141 (0, 0)) := by rw [← hW6]; exact heap_alloc_new w5 _
      have hb6 : Below w5.heap.size w5 W6 := by rw [← hW6]; exact (Below.refl _ _).alloc (Nat.le_refl _) _
      obtain ⟨⟨p60, p61⟩, p62, p63⟩ := cells2g k6
      obtain ⟨W7, hW7⟩ : ∃ W7, (W6.setCell ⟨w5.heap.size, 0, none⟩ (.bool true)).setCell ⟨w5.heap.size, 1, none⟩ (.slice (some ⟨gt, 0, none⟩) n tc) = W7 := ⟨_, rfl⟩
      have k7 : W7.heap[w5.heap.size]? = some (.cells #[.bool true, .slice (some ⟨gt, 0, none⟩) n tc] 141 (0, 0)) := by
        rw [← hW7]
        simp [World.setCell, Array.getElem?_modify, k6]
      have hb7 : Below w5.heap.size w5 W7 := by rw [← hW7]; exact (hb6.setCell (p := ⟨w5.heap.size, 0, none⟩) (Nat.le_refl _) _).setCell (p := ⟨w5.heap.size, 1, none⟩) (Nat.le_refl _) _
      have l6 : w5.heap.size < W6.heap.size := (Array.getElem?_eq_some_iff.1 k6).1
      have l7 : w5.heap.size < W7.heap.size := (Array.getElem?_eq_some_iff.1 k7).1
      obtain ⟨⟨p70, p71⟩, _⟩ := cells2g k7
      have hT7 : TAt w.heap.size W7 gt tc n (List.replicate n (0, false)) := owns_base (hT5.kd (S := fun _ => False) (Kd.of_below hb7) id) (by omega)
      have hb57 : Below wr.heap.size wr W7 := hb5.trans (hb7.mono hb5.size)
      obtain ⟨⟨g70, g71⟩, _⟩ := cells2g ((hb57.block _ lgw).trans HGW.out)
      have lg7 : w.heap.size < W7.heap.size := by have := hb57.size; omega
      have HB7 : Hid (Below w.heap.size w W7 ∧ TAt w.heap.size W7 gt tc n (List.replicate n (0, false))) := ⟨HBW.out.trans (hb57.mono HBW.out.size), hT7⟩
      have HG7 : Hid (Calls Tryz.prog 65 #[.slice (some ⟨gt, 0, none⟩) n tc, .agg #[.int .i64 (S : Int), .int .i64 b]] W7.drew fun e w' => e = .returned (.bool true) ∧ Below W7.heap.size W7 w') := (HGA.out W7.drew _ _ (hT7.read.below (Below.refl _ _).drew)).mono fun e w' ⟨h1, h2⟩ => ⟨h1, ((Below.refl _ W7).drew).trans h2⟩
      clear hT5 hb5 k6 hb6 k7 hb7 hT7 hb57 HBW HGW HDT HGA c0 c1 c2 c3 c4 g0 g1
      go_wp2_with fail
      go_region_law (first
        | (go_simp; go_at_call 65; refine HG7.out.mono ?_; rintro e w8 ⟨rfl, hb8⟩; have HF : Hid (Below w.heap.size w w8 ∧ TAt w.heap.size w8 gt tc n (List.replicate n (0, false))) := ⟨HB7.out.1.trans (hb8.mono HB7.out.1.size), HB7.out.2.kd (S := fun _ => False) (Kd.of_below hb8) id⟩; obtain ⟨p80, p81⟩ : w8.cell? ⟨w5.heap.size, 0, none⟩ = some (.bool true) ∧ w8.cell? ⟨w5.heap.size, 1, none⟩ = some (.slice (some ⟨gt, 0, none⟩) n tc) := ⟨(hb8.cell l7).trans p70, (hb8.cell l7).trans p71⟩; clear hb8))
      all_goals
        go_wp2
        refine bodyPost_ret (results_tmp2 rfl _ _ _) rfl ?_
        exact ⟨⟨gt, tc, rfl, HF.out.2⟩, HF.out.1⟩
end Go.Proofs.YtonpdbajoidigaaGreatDoor
