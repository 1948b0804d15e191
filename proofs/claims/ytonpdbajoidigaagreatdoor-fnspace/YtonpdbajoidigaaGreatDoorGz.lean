/-
  Srk, Srl.
-/
import Derived.Test.YtonpdbajoidigaaGreatDoorGy
import Derived.Deep.RegionHeld
/-
  FnSpace: a new engine.
-/
namespace Go.Proofs.YtonpdbajoidigaaGreatDoor
open Go.RowKit
set_option linter.unusedSimpArgs false
set_option linter.unusedVariables false

def engH (E : Nat) : List Value := [.nilFunc, hndV E 21, hndV E 22, hndV E 23, hndV E 24, hndV E 25, hndV E 26, hndV E 27, hndV E 28]
set_option maxRecDepth 100000 in
set_option maxHeartbeats 4000000 in
theorem newEngine_any (C gt tc n : Nat) (ka : Option Addr) (S kc : Nat) (fa : Option Addr) (fc : Nat) (b : Int) (w : World) (hv : vG (S : Int) b = true) :
    Calls Tryz.prog 9 #[.pointer (some ⟨C, 0, none⟩), .agg #[.int .i64 1, .slice (some ⟨gt, 0, none⟩) n tc, .slice ka S kc, .slice fa 0 fc], .agg #[.int .i64 (S : Int), .int .i64 b], .int .i64 (-1)] w fun e w' => ∃ E W Dm, e = .returned (.pointer (some ⟨E, 0, none⟩)) ∧ EngAt w' E C S b W Dm (.slice (some ⟨gt, 0, none⟩) n tc) 1 (-1) 0 0 (engH E) ∧ MF w' W [] ∧ MF w' Dm [] ∧ w.heap.size ≤ W ∧ W < Dm ∧ w.heap.size ≤ E ∧ Below w.heap.size w w' := by
  obtain ⟨P0, P1, P2, P3, P4, hPl⟩ : ∃ P0 P1 P2 P3 P4, (S : Int) * b = P0 ∧ nblk (2 * ((S : Int) * b)) = P1 ∧ logN S b = P2 ∧ logN S b + (S : Int) * b = P3 ∧ (S : Int) * b - 2 * b = P4 := ⟨_, _, _, _, _, rfl, rfl, rfl, rfl, rfl⟩
  have HPL := Lib.hid hPl
  have HY : Hid (∀ V, Calls Tryz.prog 13 #[.agg #[.int .i64 (S : Int), .int .i64 b]] V fun e w' => e = .returned (.agg #[.int .i64 P0, .int .i64 P1, .int .i64 P2, .int .i64 P3, .int .i64 P4]) ∧ Below V.heap.size V w') := fun V => by
    have := layout_impl (S : Int) b V
    unfold layA at this
    rw [hv, if_pos rfl, hPl.2.2.2.1, hPl.2.2.2.2, hPl.1, hPl.2.2.1] at this
    rw [hPl.1] at hPl
    rw [hPl.2.1] at this
    exact this
  clear hPl
  have HN : Hid (∀ V, Calls Tryz.prog 20 #[.slice fa 0 fc] V fun e w' => ∃ r, e = .returned (.agg #[.map (some r)]) ∧ MF w' r [] ∧ V.heap.size ≤ r ∧ Below V.heap.size V w') := fun V => newFileSet_none fa fc V
  obtain ⟨W1, hW1⟩ : ∃ W1, w.alloc (.cells #[.int .i64 1, .slice (some ⟨gt, 0, none⟩) n tc, .slice ka S kc, .slice fa 0 fc] 49) = W1 := ⟨_, rfl⟩
  have hb1 : Below w.heap.size w W1 := by rw [← hW1]; exact (Below.refl _ _).alloc (Nat.le_refl _) _
  have k1 : W1.heap[w.heap.size]? = some (.cells #[.int .i64 1, .slice (some ⟨gt, 0, none⟩) n tc, .slice ka S kc, .slice fa 0 fc] 49 (0, 0)) := by rw [← hW1]; exact heap_alloc_new w _
  obtain ⟨W2, hW2⟩ : ∃ W2, W1.alloc (.cells #[.int .i64 (S : Int), .int .i64 b] 25) = W2 := ⟨_, rfl⟩
  have hb2 : Below W1.heap.size W1 W2 := by rw [← hW2]; exact (Below.refl _ _).alloc (Nat.le_refl _) _
  have k2 : W2.heap[W1.heap.size]? = some (.cells #[.int .i64 (S : Int), .int .i64 b] 25 (0, 0)) := by rw [← hW2]; exact heap_alloc_new W1 _
  have l1 : w.heap.size < W1.heap.size := (Array.getElem?_eq_some_iff.1 k1).1
  have l2 : W1.heap.size < W2.heap.size := (Array.getElem?_eq_some_iff.1 k2).1
  have l12 : w.heap.size < W2.heap.size := by omega
  have k12 := (hb2.block _ l1).trans k1
  obtain ⟨⟨x0, x1, x2, x3⟩, _⟩ := four_ofF k12
  obtain ⟨⟨g0, g1⟩, _⟩ := cells2g k2
  have HB2 : Hid (Below w.heap.size w W2) := hb1.trans (hb2.mono hb1.size)
  have HK := Lib.hid (And.intro k12 k2)
  have hmf : ∀ (fn : Fn) (first cap : Array Value) (w : World), (Instr.makeFunc fn first cap).run Tryz.prog w = .ok (.func fn first cap) w := fun _ _ _ _ => rfl
  clear hb1 hb2 k1 k2 k12 hv
  go_enter Tryz.func9, Tryz.ntmps9
  go_wp2_with fail
  go_region_held (fun V => V.cell? ⟨w.heap.size, 0, none⟩ = some (.int .i64 1) ∧ V.cell? ⟨w.heap.size, 1, none⟩ = some (.slice (some ⟨gt, 0, none⟩) n tc) ∧ V.cell? ⟨w.heap.size, 3, none⟩ = some (.slice fa 0 fc) ∧ V.cell? ⟨W1.heap.size, 0, none⟩ = some (.int .i64 (S : Int)) ∧ V.cell? ⟨W1.heap.size, 1, none⟩ = some (.int .i64 b)) (go_keep) (first
    | (go_at_call 13; refine (HY.out _).mono ?_; rintro e w3 ⟨rfl, hb3⟩; have HB3 : Hid (Below W2.heap.size W2 w3) := ((Below.refl _ W2).drew).trans hb3; obtain ⟨⟨y0, y1, y2, y3⟩, _⟩ := four_ofF ((HB3.out.block _ l12).trans HK.out.1); obtain ⟨⟨h0, h1⟩, _⟩ := cells2g ((HB3.out.block _ l2).trans HK.out.2); clear hb3)
    | (go_at_call 20; refine (HN.out w4).mono ?_; rintro e w5 ⟨Dm, rfl, hM5, hD5, hb5⟩; have HB5 : Hid (Below W2.heap.size W2 w5 ∧ MF w5 W [] ∧ MF w5 Dm [] ∧ W2.heap.size ≤ W ∧ W < Dm) := ⟨HB4.out.1.trans (hb5.mono HB4.out.1.size), HB4.out.2.1.kd (S := fun _ => False) (Kd.of_below hb5) id, hM5, HB4.out.2.2, by have := HB4.out.2.1.lt; omega⟩; clear z0 z1 z2 z3 u0 u1; obtain ⟨⟨t0, t1, t2, t3⟩, _⟩ := four_ofF ((HB5.out.1.block _ l12).trans HK.out.1); obtain ⟨⟨i0, i1⟩, _⟩ := cells2g ((HB5.out.1.block _ l2).trans HK.out.2); clear hb5 hM5 hD5)
    | (go_at_call 20; refine (HN.out w3).mono ?_; rintro e w4 ⟨W, rfl, hM4, hW4, hb4⟩; have HB4 : Hid (Below W2.heap.size W2 w4 ∧ MF w4 W [] ∧ W2.heap.size ≤ W) := ⟨HB3.out.trans (hb4.mono HB3.out.size), hM4, by have := HB3.out.size; omega⟩; clear y0 y1 y2 y3 h0 h1; obtain ⟨⟨z0, z1, z2, z3⟩, _⟩ := four_ofF ((HB4.out.1.block _ l12).trans HK.out.1); obtain ⟨⟨u0, u1⟩, _⟩ := cells2g ((HB4.out.1.block _ l2).trans HK.out.2); clear hb4 hM4 hW4))
  all_goals
    obtain ⟨W6, hW6⟩ : ∃ W6, w5.alloc (.cells #[.pointer (some ⟨C, 0, none⟩), .int .i64 (S : Int), .int .i64 b, .int .i64 P0, .int .i64 P1, .int .i64 P2, .int .i64 P3, .int .i64 P4, .map (some W), .map (some Dm), .slice (some ⟨gt, 0, none⟩) n tc, .int .i64 1, .int .i64 (-1), .int .i64 0, .int .i64 0, .int .i64 (-1), .nilFunc, .nilFunc, .nilFunc, .nilFunc, .nilFunc, .nilFunc, .nilFunc, .nilFunc, .nilFunc] 68) = W6 := ⟨_, rfl⟩
    have k6 : W6.heap[w5.heap.size]? = some (.cells #[.pointer (some ⟨C, 0, none⟩), .int .i64 (S : Int), .int .i64 b, .int .i64 P0, .int .i64 P1, .int .i64 P2, .int .i64 P3, .int .i64 P4, .map (some W), .map (some Dm), .slice (some ⟨gt, 0, none⟩) n tc, .int .i64 1, .int .i64 (-1), .int .i64 0, .int .i64 0, .int .i64 (-1), .nilFunc, .nilFunc, .nilFunc, .nilFunc, .nilFunc, .nilFunc, .nilFunc, .nilFunc, .nilFunc] 68 (0, 0)) := by rw [← hW6]; exact heap_alloc_new w5 _
    have hb6 : Below w5.heap.size w5 W6 := by rw [← hW6]; exact (Below.refl _ _).alloc (Nat.le_refl _) _
    obtain ⟨V, hV⟩ : ∃ V, (((((((((W6.setCell ⟨w5.heap.size, 16, none⟩ (.nilFunc)).setCell ⟨w5.heap.size, 17, none⟩ (hndV w5.heap.size 21)).setCell ⟨w5.heap.size, 18, none⟩ (hndV w5.heap.size 22)).setCell ⟨w5.heap.size, 19, none⟩ (hndV w5.heap.size 23)).setCell ⟨w5.heap.size, 20, none⟩ (hndV w5.heap.size 24)).setCell ⟨w5.heap.size, 21, none⟩ (hndV w5.heap.size 25)).setCell ⟨w5.heap.size, 22, none⟩ (hndV w5.heap.size 26)).setCell ⟨w5.heap.size, 23, none⟩ (hndV w5.heap.size 27)).setCell ⟨w5.heap.size, 24, none⟩ (hndV w5.heap.size 28)) = V := ⟨_, rfl⟩
    have hEV : EngAt V w5.heap.size C S b W Dm (.slice (some ⟨gt, 0, none⟩) n tc) 1 (-1) 0 0 (engH w5.heap.size) := by
      obtain ⟨p0, p1, p2, p3, p4⟩ := HPL.out
      unfold EngAt engL
      rw [p3, p4, p1, p0, p2, ← hV]
      simp [World.setCell, Array.getElem?_modify, k6, engH]
    have HF : Hid (EngAt V w5.heap.size C S b W Dm (.slice (some ⟨gt, 0, none⟩) n tc) 1 (-1) 0 0 (engH w5.heap.size) ∧ MF V W [] ∧ MF V Dm [] ∧ w.heap.size ≤ W ∧ W < Dm ∧ w.heap.size ≤ w5.heap.size ∧ Below w.heap.size w V) := by
      have hbV : Below w5.heap.size w5 V := by
        rw [← hV]
        repeat' (first | with_reducible exact hb6 | with_reducible refine Below.setCell ?_ ?_ _ | exact Nat.le_refl _)
      obtain ⟨h1, h2, h3, h4, h5⟩ := HB5.out
      have h6 := h1.size
      have h7 := HB2.out.trans (h1.mono HB2.out.size)
      exact ⟨hEV, h2.kd (S := fun _ => False) (Kd.of_below hbV) id, h3.kd (S := fun _ => False) (Kd.of_below hbV) id, by omega, h5, by omega, h7.trans (hbV.mono (by omega))⟩
    have hth : W6.there w5.heap.size 16 (engH w5.heap.size).toArray.size := by
      intro j hj
      have hj' : j < 9 := hj
      rcases (show j = 0 ∨ j = 1 ∨ j = 2 ∨ j = 3 ∨ j = 4 ∨ j = 5 ∨ j = 6 ∨ j = 7 ∨ j = 8 by omega) with rfl | rfl | rfl | rfl | rfl | rfl | rfl | rfl | rfl
      all_goals exact ⟨by simp [World.cell?, k6], by simp [World.frozen?, k6]⟩
    have hset : W6.setCells w5.heap.size 16 (engH w5.heap.size).toArray.toList = V := hV
    have hone : (engH w5.heap.size).toArray.all (·.oneCell') = true := by simp [engH, hndV, Value.oneCell']
    clear k6 hb6 hEV x0 x1 x2 x3 g0 g1 t0 t1 t2 t3 i0 i1 HB5 hV
    go_wp2_with (refine wpList_store_mid rfl 66 _ _ rfl w5.heap.size 16 (engH w5.heap.size).toArray rfl rfl hth (by kernel_rfl) hone ?_; rw [hset])
    go_ret
    exact ⟨_, rfl, W, Dm, HF.out⟩
end Go.Proofs.YtonpdbajoidigaaGreatDoor

/-
  FnSpace: a run over a formatted disk.
-/
namespace Go.Proofs.YtonpdbajoidigaaGreatDoor
open Go.RowKit
set_option linter.unusedSimpArgs false
set_option linter.unusedVariables false

theorem zero_full (L b : Int) (S n : Nat) (u : Int) (hL : 1 ≤ L) (hb : 0 ≤ b) : (S : Int) * b ≤ frS (segL L b (List.replicate n ((0 : Int), false)) S n) (-1) u b S := by
  have hc : ∀ s, cntS L b (List.replicate n ((0 : Int), false)) s n = 0 := fun s => by
    rw [cntS_R]
    have : cntR (fun i => segB L b s (eA (List.replicate n ((0 : Int), false)) i)) n = cntR (fun _ => false) n := cntR_same fun i hi => by rw [zero_eA, segB_zero hL hb]
    rw [this, cntR]
    simp
  rw [frS, frN_R, fr0]
  have : cntR (fitF (segL L b (List.replicate n ((0 : Int), false)) S n) (-1)) S = cntR (fun _ => true) S := cntR_same fun i hi => by
    rw [fit_at i hi, hc]
    have : ¬ ((i : Int) = -1) := by omega
    simp [this]
  rw [this, if_pos rfl]
  have : cntR (fun _ => true) S = S := by rw [cntR, List.filter_eq_self.2 (by simp), List.length_range]
  rw [this]
  omega
theorem st_start {S : Nat} {b : Int} {T n N B C M gt tc E W Dm : Nat} {w : World} (hv : vG (S : Int) b = true) (hn : (n : Int) = S * b) (hN : logN S b + S * b = (N : Int)) {rd : Int → List Int}
    (hE : EngAt w E C S b W Dm (.slice (some ⟨gt, 0, none⟩) n tc) 1 (-1) 0 0 (engH E)) (hD : DS B w C N M 256 rd) (hT : TAt B w gt tc n (List.replicate n (0, false))) (hW : MF w W []) (hDm : MF w Dm []) (hB0 : 0 < B) (hBE : B ≤ E) (hBW : B ≤ W) (hWM : M < W) (hWD : W < Dm) (hR : RulesAt w) (P : Pl) :
    (Cx.mk B E C N M S b W n (engH E)).Ok ∧ Hold (Cx.mk B E C N M S b W n (engH E)) (P.Q (Cx.mk B E C N M S b W n (engH E)) 0) w := by
  have hg := vG_yes hv
  have hL := (logN_bounds hv).1
  refine ⟨⟨hBE, hB0, hv, hN.symm, hn, by show W ≠ M; omega, hBW, rfl, rfl, rfl, rfl⟩, ?_⟩
  rw [Pl.Q, if_pos (Nat.zero_le _)]
  refine ⟨Dm, gt, tc, List.replicate n (0, false), 1, -1, 0, 0, rd, [], [], ⟨hE, hD, hT, ⟨by simp, fun i hi hne => absurd (zero_eA n i) hne, .inl ⟨rfl, by omega, by show (0 : Int) ≤ b; omega⟩⟩, ⟨by omega, by show (0 : Int) ≤ b; omega⟩, hW, hDm, fun p hp => (by cases hp), by show Dm ≠ W; omega, by show Dm ≠ M; omega, hR⟩, ?_⟩
  refine ⟨rfl, rfl, ?_, ?_, fun i hi hne => absurd (zero_eA n i) hne, by omega, by omega⟩
  · rw [Nat.zero_mul]
    exact zero_live fun i _ => zero_eA n i
  · have := zero_full (logN S b) b S n 0 (by omega) (by omega)
    show (S : Int) * b - ((0 : Nat) : Int) * (P.m + 1) ≤ _
    rw [Int.natCast_zero, Int.zero_mul, Int.sub_zero]
    exact this
theorem six_set {W : World} {g : Nat} {a0 a1 a2 a3 a4 a5 : Value} {t : TypeId} (h : W.heap[g]? = some (.cells #[a0, a1, a2, a3, a4, a5] t (0, 0))) (b0 b1 b2 b3 b4 b5 : Value) : ((((((W.setCell ⟨g, 0, none⟩ b0).setCell ⟨g, 1, none⟩ b1).setCell ⟨g, 2, none⟩ b2).setCell ⟨g, 3, none⟩ b3).setCell ⟨g, 4, none⟩ b4).setCell ⟨g, 5, none⟩ b5).heap[g]? = some (.cells #[b0, b1, b2, b3, b4, b5] t (0, 0)) := by
  simp [World.setCell, Array.getElem?_modify, h]
theorem six_ofR {W : World} {r : Nat} {v0 v1 v2 v3 v4 v5 : Value} {t : TypeId} (h : W.heap[r]? = some (.cells #[v0, v1, v2, v3, v4, v5] t (0, 0))) : (W.cell? ⟨r, 0, none⟩ = some v0 ∧ W.cell? ⟨r, 1, none⟩ = some v1 ∧ W.cell? ⟨r, 2, none⟩ = some v2 ∧ W.cell? ⟨r, 3, none⟩ = some v3 ∧ W.cell? ⟨r, 4, none⟩ = some v4 ∧ W.cell? ⟨r, 5, none⟩ = some v5) ∧ ∀ i, W.frozen? ⟨r, i, none⟩ = false := by
  refine ⟨⟨?_, ?_, ?_, ?_, ?_, ?_⟩, fun i => ?_⟩
  all_goals first | simp [World.cell?, h] | simp [World.frozen?, h]
set_option maxRecDepth 100000 in
set_option maxHeartbeats 4000000 in
theorem run_fmt (g off N ca ga cc : Nat) (S : Nat) (b : Int) (T n : Nat) (P : Pl) (w : World) (hr : IRow .u8 w (some ⟨g, off, none⟩) (N * 64) (fmtX S b T N)) (hca : N * 64 ≤ ca) (hv : vG (S : Int) b = true) (hn : (n : Int) = S * b) (hT : nblk (2 * ((S : Int) * b)) = (T : Int)) (hN : logN S b + S * b = (N : Int))
    (hrow : ∃ cur, w.heap[ga]? = some (.cells cur 29 (0, 0))) (hcell : ∀ j, j < 2 * P.f + 6 → w.cell? ⟨ga, j * 4, none⟩ = some (.int .i64 ((P.cs j).1 : Int)) ∧ w.cell? ⟨ga, j * 4 + 1, none⟩ = some (.string (P.cs j).2.1) ∧ w.cell? ⟨ga, j * 4 + 2, none⟩ = some (.string (P.cs j).2.2) ∧ w.cell? ⟨ga, j * 4 + 3, none⟩ = some (.int .i64 0)) (hK : 2 * P.f + 6 ≤ 1000) (hP : ∀ K : Cx, K.S = S → K.b = b → P.Ok K) (hR : RulesAt w) (hw0 : 0 < w.heap.size) :
    Calls Tryz.prog 6 #[.agg #[.slice (some ⟨g, off, none⟩) (N * 64) ca, .slice none 0 0], .agg #[.int .i64 (S : Int), .int .i64 b], .slice (some ⟨ga, 0, none⟩) (2 * P.f + 6) cc, .int .i64 (-1)] w fun e w' => ∃ v o d1 l1 c1 d2 l2 c2, e = .returned (.agg #[.int .i64 0, .bool false, v, .int .i64 o, .slice d1 l1 c1, .slice d2 l2 c2]) ∧ w'.ownsRow w.heap.size 42 9 v (2 * P.f + 6) (ansL P.an (2 * P.f + 6)) ∧ Below w.heap.size w w' := by
  have hga : ga < w.heap.size := by obtain ⟨cur, h⟩ := hrow; exact (Array.getElem?_eq_some_iff.1 h).1
  obtain ⟨KK, hKK⟩ : ∃ KK, 2 * P.f + 6 = KK := ⟨_, rfl⟩
  have HKK := Lib.hid hKK
  rw [hKK] at hK hcell ⊢
  have HIM : Hid (∀ V, Below w.heap.size w V → Calls Tryz.prog 8 #[.agg #[.slice (some ⟨g, off, none⟩) (N * 64) ca, .slice none 0 0], .agg #[.int .i64 (S : Int), .int .i64 b]] V fun e w' => ∃ C gt tc ka kc fa fc B M, e = .returned (.tuple #[.pointer (some ⟨C, 0, none⟩), .agg #[.int .i64 1, .slice (some ⟨gt, 0, none⟩) n tc, .slice ka S kc, .slice fa 0 fc], .int .i64 0]) ∧ V.heap.size ≤ B ∧ B ≤ w'.heap.size ∧ DS B w' C N M 256 (readL (fmtX S b T N) []) ∧ TAt B w' gt tc n (List.replicate n (0, false)) ∧ Below V.heap.size V w') := fun V hV => openImage_fmt g off N ca S b T n V (hr.below hV) hca hv hn hT hN
  have HNE : Hid (∀ C gt tc ka kc fa fc V, Calls Tryz.prog 9 #[.pointer (some ⟨C, 0, none⟩), .agg #[.int .i64 1, .slice (some ⟨gt, 0, none⟩) n tc, .slice ka S kc, .slice fa 0 fc], .agg #[.int .i64 (S : Int), .int .i64 b], .int .i64 (-1)] V fun e w' => ∃ E W Dm, e = .returned (.pointer (some ⟨E, 0, none⟩)) ∧ EngAt w' E C S b W Dm (.slice (some ⟨gt, 0, none⟩) n tc) 1 (-1) 0 0 (engH E) ∧ MF w' W [] ∧ MF w' Dm [] ∧ V.heap.size ≤ W ∧ W < Dm ∧ V.heap.size ≤ E ∧ Below V.heap.size V w') := fun C gt tc ka kc fa fc V => newEngine_any C gt tc n ka S kc fa fc b V hv
  have HSTART := Lib.hid (And.intro hv (And.intro hn (And.intro hN (And.intro hP (And.intro hR (And.intro hrow hcell))))))
  obtain ⟨v1, v2, v3⟩ := fmt_bounds hv hT hN
  obtain ⟨W1, hW1⟩ : ∃ W1, w.alloc (.cells #[.slice (some ⟨g, off, none⟩) (N * 64) ca, .slice none 0 0] 33) = W1 := ⟨_, rfl⟩
  have hb1 : Below w.heap.size w W1 := by rw [← hW1]; exact (Below.refl _ _).alloc (Nat.le_refl _) _
  have k1 : W1.heap[w.heap.size]? = some (.cells #[.slice (some ⟨g, off, none⟩) (N * 64) ca, .slice none 0 0] 33 (0, 0)) := by rw [← hW1]; exact heap_alloc_new w _
  obtain ⟨W2, hW2⟩ : ∃ W2, W1.alloc (.cells #[.int .i64 (S : Int), .int .i64 b] 25) = W2 := ⟨_, rfl⟩
  have hb2 : Below W1.heap.size W1 W2 := by rw [← hW2]; exact (Below.refl _ _).alloc (Nat.le_refl _) _
  have k2 : W2.heap[W1.heap.size]? = some (.cells #[.int .i64 (S : Int), .int .i64 b] 25 (0, 0)) := by rw [← hW2]; exact heap_alloc_new W1 _
  obtain ⟨W3, hW3⟩ : ∃ W3, W2.alloc (.cells #[.int .i64 0, .bool false, .slice none 0 0, .int .i64 0, .slice none 0 0, .slice none 0 0] 35) = W3 := ⟨_, rfl⟩
  have hb3 : Below W2.heap.size W2 W3 := by rw [← hW3]; exact (Below.refl _ _).alloc (Nat.le_refl _) _
  have k3 : W3.heap[W2.heap.size]? = some (.cells #[.int .i64 0, .bool false, .slice none 0 0, .int .i64 0, .slice none 0 0, .slice none 0 0] 35 (0, 0)) := by rw [← hW3]; exact heap_alloc_new W2 _
  have l1 : w.heap.size < W1.heap.size := (Array.getElem?_eq_some_iff.1 k1).1
  have l2 : W1.heap.size < W2.heap.size := (Array.getElem?_eq_some_iff.1 k2).1
  have l3 : W2.heap.size < W3.heap.size := (Array.getElem?_eq_some_iff.1 k3).1
  have k13 : W3.heap[w.heap.size]? = some (.cells #[.slice (some ⟨g, off, none⟩) (N * 64) ca, .slice none 0 0] 33 (0, 0)) := (hb3.block _ (by omega)).trans ((hb2.block _ l1).trans k1)
  have k23 : W3.heap[W1.heap.size]? = some (.cells #[.int .i64 (S : Int), .int .i64 b] 25 (0, 0)) := (hb3.block _ l2).trans k2
  obtain ⟨⟨x0, x1⟩, _⟩ := cells2g k13
  obtain ⟨⟨x2, x3⟩, _⟩ := cells2g k23
  have HB3 : Hid (Below w.heap.size w W3) := (hb1.trans (hb2.mono hb1.size)).trans (hb3.mono (by omega))
  have HK := Lib.hid (And.intro k23 k3)
  have l13 : w.heap.size < W3.heap.size := by omega
  have l23 : W1.heap.size < W3.heap.size := by omega
  have hKi : ¬ ((1000 : Int) < (KK : Int)) := by omega
  clear hb1 hb2 hb3 k1 k2 k3 k13 k23 hr hv hn hT hN hP hR hrow hcell hKK
  go_enter Tryz.func6, Tryz.ntmps6
  go_wp2_with fail
  refine (HIM.out W3 HB3.out).mono ?_
  rintro e w4 ⟨C, gt, tc, ka, kc, fa, fc, B, M, rfl, hB1, hB2, hD4, hT4, hb4⟩
  obtain ⟨W5, hW5⟩ : ∃ W5, w4.alloc (.cells #[.int .i64 0, .slice none 0 0, .slice none 0 0, .slice none 0 0] 49) = W5 := ⟨_, rfl⟩
  have k5 : W5.heap[w4.heap.size]? = some (.cells #[.int .i64 0, .slice none 0 0, .slice none 0 0, .slice none 0 0] 49 (0, 0)) := by rw [← hW5]; exact heap_alloc_new w4 _
  have hb5 : Below w4.heap.size w4 W5 := by rw [← hW5]; exact (Below.refl _ _).alloc (Nat.le_refl _) _
  obtain ⟨⟨p0, p1, p2, p3⟩, q0, q1, q2, q3⟩ := four_ofF k5
  obtain ⟨W6, hW6⟩ : ∃ W6, (((W5.setCell ⟨w4.heap.size, 0, none⟩ (.int .i64 1)).setCell ⟨w4.heap.size, 1, none⟩ (.slice (some ⟨gt, 0, none⟩) n tc)).setCell ⟨w4.heap.size, 2, none⟩ (.slice ka S kc)).setCell ⟨w4.heap.size, 3, none⟩ (.slice fa 0 fc) = W6 := ⟨_, rfl⟩
  have k6 : W6.heap[w4.heap.size]? = some (.cells #[.int .i64 1, .slice (some ⟨gt, 0, none⟩) n tc, .slice ka S kc, .slice fa 0 fc] 49 (0, 0)) := by rw [← hW6]; exact four_set k5 _ _ _ _
  have hb6 : Below w4.heap.size w4 W6 := by
    rw [← hW6]
    exact (((hb5.setCell (p := ⟨w4.heap.size, 0, none⟩) (Nat.le_refl _) _).setCell (p := ⟨w4.heap.size, 1, none⟩) (Nat.le_refl _) _).setCell (p := ⟨w4.heap.size, 2, none⟩) (Nat.le_refl _) _).setCell (p := ⟨w4.heap.size, 3, none⟩) (Nat.le_refl _) _
  obtain ⟨⟨r0, r1, r2, r3⟩, _⟩ := four_ofF k6
  have l5 : w4.heap.size < W5.heap.size := (Array.getElem?_eq_some_iff.1 k5).1
  have l6 : w4.heap.size < W6.heap.size := (Array.getElem?_eq_some_iff.1 k6).1
  have hb36 := hb4.trans (hb6.mono hb4.size)
  obtain ⟨⟨m2, m3⟩, _⟩ := cells2g ((hb36.block _ l23).trans HK.out.1)
  have hlG : W1.heap.size < W6.heap.size := World.block_lt_of_cell? W6 _ m2
  have HB6 : Hid (Below W3.heap.size W3 W6 ∧ W3.heap.size ≤ B ∧ B ≤ W6.heap.size ∧ DS B W6 C N M 256 (readL (fmtX S b T N) []) ∧ TAt B W6 gt tc n (List.replicate n (0, false)) ∧ M < W6.heap.size) := ⟨hb36, hB1, by have := hb6.size; omega, hD4.kd (S := fun _ => False) hb6, hT4.kd (S := fun _ => False) (Kd.of_below hb6) id, (hD4.kd (S := fun _ => False) hb6).lts.2⟩
  have HN6 := Lib.hid (HNE.out C gt tc ka kc fa fc W6)
  clear hb4 hb5 hb6 hb36 k5 k6 hD4 hT4 hB1 hB2 x0 x1 x2 x3 HNE HIM
  go_wp2_with fail
  refine HN6.out.mono ?_
  rintro e w7 ⟨E, W, Dm, rfl, hE7, hM7, hM7', hW7, hD7, hE7', hb7⟩
  have HST : Hid ((Cx.mk B E C N M S b W n (engH E)).Ok ∧ Hold (Cx.mk B E C N M S b W n (engH E)) (P.Q (Cx.mk B E C N M S b W n (engH E)) 0) w7) := by
    obtain ⟨h1, h2, h3, h4, h5, h6⟩ := HB6.out
    obtain ⟨hv, hn, hN, hP, hR, _⟩ := HSTART.out
    have hbw : Below w.heap.size w w7 := (HB3.out.trans (h1.mono HB3.out.size)).trans (hb7.mono (by have := HB3.out.size; have := h1.size; omega))
    exact st_start (T := T) hv hn hN hE7 (h4.kd (S := fun _ => False) hb7) (TAt.kd (S := fun _ => False) h5 (Kd.of_below hb7) id) hM7 hM7' (by omega) (by omega) (by omega) (by omega) hD7 (hR.below hbw hw0) P
  have HB7 : Hid (Below w.heap.size w w7 ∧ w7.heap[W2.heap.size]? = some (.cells #[.int .i64 0, .bool false, .slice none 0 0, .int .i64 0, .slice none 0 0, .slice none 0 0] 35 (0, 0)) ∧ W3.heap.size ≤ B ∧ B ≤ w7.heap.size) := by
    obtain ⟨h1, h2, h3, h4, h5, h6⟩ := HB6.out
    have s7 := hb7.size
    have s6 := h1.size
    exact ⟨(HB3.out.trans (h1.mono HB3.out.size)).trans (hb7.mono (by omega)), (hb7.block _ (by omega)).trans ((h1.block _ l3).trans HK.out.2), h2, by omega⟩
  have HAA : Hid (Calls Tryz.prog 10 #[.pointer (some ⟨E, 0, none⟩), .slice (some ⟨ga, 0, none⟩) KK cc] w7 fun e w' => ∃ v, e = .returned (.tuple #[v, .bool false]) ∧ w'.ownsRow w7.heap.size 42 9 v KK (ansL P.an KK) ∧ Hold (Cx.mk B E C N M S b W n (engH E)) (P.Q (Cx.mk B E C N M S b W n (engH E)) KK) w' ∧ Fr B w7 w') := by
    obtain ⟨hbw, _, _, hB7⟩ := HB7.out
    obtain ⟨hOk, h0⟩ := HST.out
    obtain ⟨hv, hn, hN, hP, hR, ⟨cur, hrow⟩, hcell⟩ := HSTART.out
    have hP' := hP (Cx.mk B E C N M S b W n (engH E)) rfl rfl
    have hkk := HKK.out
    exact answerAll_any B E ga cc KK P.cs P.an (fun j => Hold (Cx.mk B E C N M S b W n (engH E)) (P.Q (Cx.mk B E C N M S b W n (engH E)) j)) w7 ⟨cur, (hbw.block _ hga).trans hrow⟩ (fun j hj => by
      obtain ⟨a0, a1, a2, a3⟩ := hcell j hj
      exact ⟨(hbw.cell hga).trans a0, (hbw.cell hga).trans a1, (hbw.cell hga).trans a2, (hbw.cell hga).trans a3⟩) hK hB7 h0 (fun j V V' h hb => hold_tr hOk h hb) (fun j => hold_keeps hOk _) (fun j hj V h => step_all hOk hP' (by omega) j (by omega) V h)
  clear hE7 hM7 hM7' hW7 hD7 hE7' hb7 HN6 HB6 HSTART m2 m3 r0 r1 r2 r3 p0 p1 p2 p3 q0 q1 q2 q3
  go_wp2_with fail
  refine HAA.out.mono ?_
  rintro e w8 ⟨v, rfl, hown8, ⟨Dm', gt', tc', es', q', a', u', o', rd', ps', ds', hst8, _⟩, hf8⟩
  obtain ⟨a9, c9, rfl⟩ := owns_shape9 hown8
  have e0 : w8.cell? ⟨E, 0, none⟩ = some (.pointer (some ⟨C, 0, none⟩)) := hst8.eng.c0
  have e14 : w8.cell? ⟨E, 14, none⟩ = some (.int .i64 o') := hst8.eng.c14
  have lE : E < w8.heap.size := hst8.eng.lt
  have k8 := hf8.tag _ _ _ _ HB7.out.2.1 ⟨by decide, by decide, by decide, by decide, by decide⟩
  have l8 : W2.heap.size < w8.heap.size := (Array.getElem?_eq_some_iff.1 k8).1
  have hEW : ¬ (E = W2.heap.size) := by
    have h1 := HST.out.1.hB
    have h2 := HB7.out.2.2.1
    have h3 : B ≤ E := h1
    omega
  have hWE : ¬ (W2.heap.size = E) := fun e => hEW e.symm
  have HB8 : Hid (Below w.heap.size w w8 ∧ w8.ownsRow w.heap.size 42 9 (.slice a9 KK c9) KK (ansL P.an KK)) := by
    have h1 := HB7.out.1.size
    have h2 := HB7.out.2.2.1
    exact ⟨HB7.out.1.trans (hf8.bel.mono (by omega)), owns_base hown8 (by omega)⟩
  have HDK : Hid (Calls Tryz.prog 11 #[.pointer (some ⟨C, 0, none⟩)] w8.drew fun e w' => (∃ gd dcap pa pl pc, e = .returned (.agg #[.slice (some ⟨gd, 0, none⟩) (N * 64) dcap, .slice pa pl pc])) ∧ Below w8.heap.size w8 w') := by
    obtain ⟨xs, ws, da, dc, wa, wc, D, hcd, hws, _⟩ := hst8.dsk.kd (S := fun _ => False) ((Below.refl _ w8).drew)
    exact (cdisk_any B C N xs ws da dc wa wc M D w8.drew hcd (by omega) (by omega)).mono fun e w' ⟨T', vs, gd, dcap, pa, pc, h1, _, _, _, h5⟩ => ⟨⟨gd, dcap, pa, _, pc, h1⟩, ((Below.refl _ w8).drew).trans h5⟩
  have HK8 := Lib.hid k8
  clear hown8 hst8 hf8 k8 HAA HST HB7
  go_wp2_with fail
  go_region_held (fun V => V.cell? ⟨E, 0, none⟩ = some (.pointer (some ⟨C, 0, none⟩)) ∧ V.cell? ⟨E, 14, none⟩ = some (.int .i64 o')) (go_keep) (first
    | (go_at_call 11; refine HDK.out.mono ?_; rintro e w9 ⟨⟨gd, dcap, pa, pl, pc, rfl⟩, hb9⟩; have n0 := (hb9.cell lE).trans e0; have n14 := (hb9.cell lE).trans e14; have k9 := (hb9.block _ l8).trans HK8.out; obtain ⟨⟨t0, t1, t2, t3, t4, t5⟩, tf⟩ := six_ofR k9; have tf0 := tf 0; have tf1 := tf 1; have tf2 := tf 2; have tf3 := tf 3; have tf4 := tf 4; have tf5 := tf 5; have HB9 := Lib.hid (And.intro hb9 k9); clear hb9 k9 tf))
  all_goals
    obtain ⟨V, hV⟩ : ∃ V, ((((((w9.setCell ⟨W2.heap.size, 0, none⟩ (.int .i64 0)).setCell ⟨W2.heap.size, 1, none⟩ (.bool false)).setCell ⟨W2.heap.size, 2, none⟩ (.slice a9 KK c9)).setCell ⟨W2.heap.size, 3, none⟩ (.int .i64 o')).setCell ⟨W2.heap.size, 4, none⟩ (.slice (some ⟨gd, 0, none⟩) (N * 64) dcap)).setCell ⟨W2.heap.size, 5, none⟩ (.slice pa pl pc)) = V := ⟨_, rfl⟩
    have kV : V.heap[W2.heap.size]? = some (.cells #[.int .i64 0, .bool false, .slice a9 KK c9, .int .i64 o', .slice (some ⟨gd, 0, none⟩) (N * 64) dcap, .slice pa pl pc] 35 (0, 0)) := by rw [← hV]; exact six_set HB9.out.2 _ _ _ _ _ _
    have hkV : Kept (fun g => g = W2.heap.size) w9 V := by
      rw [← hV]
      exact (((((Kept.setCell w9 ⟨W2.heap.size, 0, none⟩ _ (fun g => g = W2.heap.size) rfl).trans (Kept.setCell _ ⟨W2.heap.size, 1, none⟩ _ (fun g => g = W2.heap.size) rfl)).trans (Kept.setCell _ ⟨W2.heap.size, 2, none⟩ _ (fun g => g = W2.heap.size) rfl)).trans (Kept.setCell _ ⟨W2.heap.size, 3, none⟩ _ (fun g => g = W2.heap.size) rfl)).trans (Kept.setCell _ ⟨W2.heap.size, 4, none⟩ _ (fun g => g = W2.heap.size) rfl)).trans (Kept.setCell _ ⟨W2.heap.size, 5, none⟩ _ (fun g => g = W2.heap.size) rfl)
    obtain ⟨⟨z0, z1, z2, z3, z4, z5⟩, _⟩ := six_ofR kV
    have HF : Hid (V.ownsRow w.heap.size 42 9 (.slice a9 KK c9) KK (ansL P.an KK) ∧ Below w.heap.size w V) := by
      obtain ⟨hb9, k9⟩ := HB9.out
      have own9 := owns_below HB8.out.2 hb9
      have hbw9 := HB8.out.1.trans (hb9.mono HB8.out.1.size)
      refine ⟨⟨own9.1, own9.2.imp id ?_⟩, hbw9.trans (hkV.below hbw9.size (fun g hg => by omega))⟩
      rintro ⟨g', cap, cur, e1, hBg, hg, rest⟩
      refine ⟨g', cap, cur, e1, hBg, (hkV.block g' (Array.getElem?_eq_some_iff.1 hg).1 (fun e => ?_)).trans hg, rest⟩
      rw [e, k9] at hg
      injection hg with hg
      injection hg with _ hg
      exact absurd hg (by decide)
    clear kV hkV HB9 HB8
    rw [hV]
    clear hV hW1 hW2 hW3 hW5 hW6 e0 e14 n0 n14 t0 t1 t2 t3 t4 t5 tf0 tf1 tf2 tf3 tf4 tf5 hEW hWE HDK HK8 HK HB3
    go_wp2
    refine bodyPost_ret (v := .agg #[.int .i64 0, .bool false, .slice a9 KK c9, .int .i64 o', .slice (some ⟨gd, 0, none⟩) (N * 64) dcap, .slice pa pl pc]) (by simp [results, Tryz.results6, go_sem, z0, z1, z2, z3, z4, z5]) rfl ?_
    exact ⟨_, _, _, _, _, _, _, _, rfl, HF.out⟩
end Go.Proofs.YtonpdbajoidigaaGreatDoor
