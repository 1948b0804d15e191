/-
  FnSpace: what is refused of writes.
-/
import Derived.Test.YtonpdbajoidigaaGreatDoorSqc
namespace Go.Proofs.YtonpdbajoidigaaGreatDoor
open Go.RowKit
set_option linter.unusedSimpArgs false
set_option linter.unusedVariables false

set_option maxRecDepth 100000 in
set_option maxHeartbeats 4000000 in
theorem refuse_write (E C : Nat) (S : Nat) (b : Int) (W Dm : Nat) (ta : Option Addr) (n tc : Nat) (es : List (Int × Bool)) (q a u o : Int) (hs : List Value) (fs : List FR) (k : Nat) (nm dt : ByteArray) (m : Nat) (w : World) (hE : EngAt w E C S b W Dm (.slice ta n tc) q a u o hs) (ht : ERead w ta n es) (hn4 : n ≤ 4096) (hv : vG (S : Int) b = true) (hm : m ≤ 22) (hdt : dt.size = 64 * m) (hM : MF w W fs) (hk : 1 ≤ k) (hk' : k ≤ 8) (hR : RuleAt w k true true false false true) (hn : nameB nm = true) :
    Calls Tryz.prog 58 #[.pointer (some ⟨E, 0, none⟩), .agg (callV k nm dt)] w fun e w' => e = .returned (.int .i64 (codeN S b es n m)) ∧ Below w.heap.size w w' := by
  obtain ⟨h0, h1, h2, h3, h4⟩ := hR
  have c8 := hE.c8
  have hlE := hE.lt
  have hl0 : 0 < w.heap.size := World.block_lt_of_cell? w _ h0
  obtain ⟨W1, hW1⟩ : ∃ W1, w.alloc (.cells #[.int .i64 k, .string nm, .string dt, .int .i64 0] 29) = W1 := ⟨_, rfl⟩
  have hb : Below w.heap.size w W1 := by rw [← hW1]; exact (Below.refl _ _).alloc (Nat.le_refl _) _
  have k1 : W1.heap[w.heap.size]? = some (.cells #[.int .i64 k, .string nm, .string dt, .int .i64 0] 29 (0, 0)) := by rw [← hW1]; exact heap_alloc_new w _
  obtain ⟨W2, hW2⟩ : ∃ W2, W1.alloc (.cells #[.bool false, .bool false, .bool false, .bool false, .bool false] 195) = W2 := ⟨_, rfl⟩
  have hb2 : Below W1.heap.size W1 W2 := by rw [← hW2]; exact (Below.refl _ _).alloc (Nat.le_refl _) _
  have k2 : W2.heap[W1.heap.size]? = some (.cells #[.bool false, .bool false, .bool false, .bool false, .bool false] 195 (0, 0)) := by rw [← hW2]; exact heap_alloc_new W1 _
  have l1 : w.heap.size < W1.heap.size := (Array.getElem?_eq_some_iff.1 k1).1
  have l2 : W1.heap.size < W2.heap.size := (Array.getElem?_eq_some_iff.1 k2).1
  obtain ⟨⟨y0, y1, y2, y3⟩, _⟩ := four_ofF k1
  obtain ⟨⟨z0, z1, z2, z3⟩, _⟩ := four_ofF ((hb2.block _ l1).trans k1)
  obtain ⟨⟨x0, x1, x2, x3, x4⟩, xf⟩ := five_ofR k2
  have xf0 := xf 0
  have xf1 := xf 1
  have xf2 := xf 2
  have xf3 := xf 3
  have xf4 := xf 4
  have g0 : W1.cell? ⟨0, k * 5, none⟩ = some (.bool true) := (hb.cell hl0).trans h0
  have g1 : W1.cell? ⟨0, k * 5 + 1, none⟩ = some (.bool true) := (hb.cell hl0).trans h1
  have g2 : W1.cell? ⟨0, k * 5 + 2, none⟩ = some (.bool false) := (hb.cell hl0).trans h2
  have g3 : W1.cell? ⟨0, k * 5 + 3, none⟩ = some (.bool false) := (hb.cell hl0).trans h3
  have g4 : W1.cell? ⟨0, k * 5 + 4, none⟩ = some (.bool true) := (hb.cell hl0).trans h4
  obtain ⟨W3, hW3⟩ : ∃ W3, ((((W2.setCell ⟨W1.heap.size, 0, none⟩ (.bool true)).setCell ⟨W1.heap.size, 1, none⟩ (.bool true)).setCell ⟨W1.heap.size, 2, none⟩ (.bool false)).setCell ⟨W1.heap.size, 3, none⟩ (.bool false)).setCell ⟨W1.heap.size, 4, none⟩ (.bool true) = W3 := ⟨_, rfl⟩
  have k3 : W3.heap[W1.heap.size]? = some (.cells #[.bool true, .bool true, .bool false, .bool false, .bool true] 195 (0, 0)) := by rw [← hW3]; exact five_set k2 _ _ _ _ _
  have hb3 : Below W1.heap.size W1 W3 := by
    rw [← hW3]
    exact ((((hb2.setCell (p := ⟨W1.heap.size, 0, none⟩) (Nat.le_refl _) _).setCell (p := ⟨W1.heap.size, 1, none⟩) (Nat.le_refl _) _).setCell (p := ⟨W1.heap.size, 2, none⟩) (Nat.le_refl _) _).setCell (p := ⟨W1.heap.size, 3, none⟩) (Nat.le_refl _) _).setCell (p := ⟨W1.heap.size, 4, none⟩) (Nat.le_refl _) _
  obtain ⟨⟨u0, u1, u2, u3, u4⟩, _⟩ := five_ofR k3
  obtain ⟨⟨v0, v1, v2, v3⟩, _⟩ := four_ofF ((hb3.block _ l1).trans k1)
  have HB3 : Hid (Below w.heap.size w W3) := hb.trans (hb3.mono hb.size)
  have l3 : W1.heap.size < W3.heap.size := (Array.getElem?_eq_some_iff.1 k3).1
  have HSN : Hid (Calls Tryz.prog 98 #[.agg #[.int .i64 (k : Int), .string nm, .string dt, .int .i64 0], .agg #[.bool true, .bool true, .bool false, .bool false, .bool true]] W3 fun e w' => e = .returned (.bool false) ∧ Below W3.heap.size W3 w') := stray_no k nm dt true true false false true W3 (.inr rfl) (.inr rfl)
  have HVN2 : Hid (∀ V, Calls Tryz.prog 99 #[.string nm] V fun e w' => e = .returned (.bool true) ∧ Below V.heap.size V w') := fun V => (validName_impl nm V (by have := name_size hn; omega)).mono fun e w' ⟨h1, h2⟩ => ⟨by rw [h1, hn], h2⟩
  have HNS : Hid (∀ V, Calls Tryz.prog 101 #[.agg #[.int .i64 (k : Int), .string nm, .string dt, .int .i64 0], .agg #[.bool true, .bool true, .bool false, .bool false, .bool true]] V fun e w' => e = .returned (.int .i64 (dt.size : Int)) ∧ Below V.heap.size V w') := fun V => newSize_data k nm dt true false false true V (by omega)
  have HRS : Hid (∀ V, Below w.heap.size w V → Calls Tryz.prog 100 #[.pointer (some ⟨E, 0, none⟩), .int .i64 (dt.size : Int)] V fun e w' => e = .returned (.int .i64 (codeN S b es n m)) ∧ Below w.heap.size w w') := fun V hV => (refuseSize_any E C S b W Dm ta n tc es q a u o hs m (dt.size : Int) V ((hV.block E hE.lt).trans hE) (ht.below hV) hn4 hv hm (by rw [hdt]; omega)).mono fun e w' ⟨h1, h2⟩ => ⟨h1, hV.trans (h2.mono hV.size)⟩
  obtain ⟨fo, hfo⟩ : ∃ fo, lookF nm fs = fo := ⟨_, rfl⟩
  obtain ⟨f, hf⟩ : ∃ f, fo.getD FR.none = f := ⟨_, rfl⟩
  have HFN : Hid (∀ V, Below w.heap.size w V → Calls Tryz.prog 84 #[.agg #[.map (some W)], .string nm] V fun e w' => e = .returned (.tuple #[.agg #[.int .i64 f.lid, .string f.nm, .int .i64 f.sz, .slice f.la f.ln f.lc], .bool fo.isSome]) ∧ Below V.heap.size V w') := fun V hV => (findF_any W fs nm fo V (hM.kd (S := fun _ => False) (Kd.of_below hV) id) hfo).mono fun e w' ⟨h1, h2⟩ => ⟨by rw [h1, hf]; rfl, h2⟩
  generalize fo.isSome = fd at *
  have hkt : ((k : Int)).toNat = k := by omega
  have hk1 : ¬ ((k : Int) < 1) := by omega
  have hk8 : ¬ ((8 : Int) < (k : Int)) := by omega
  have hk9 : (k : Int) < 9 := by omega
  have hk0 : (0 : Int) ≤ (k : Int) := by omega
  have HCE : Hid (∀ V, Below W3.heap.size W3 V → ((V.cell? ⟨W1.heap.size, 0, none⟩ = some (.bool true) ∧ V.cell? ⟨W1.heap.size, 1, none⟩ = some (.bool true) ∧ V.cell? ⟨W1.heap.size, 2, none⟩ = some (.bool false) ∧ V.cell? ⟨W1.heap.size, 3, none⟩ = some (.bool false) ∧ V.cell? ⟨W1.heap.size, 4, none⟩ = some (.bool true)) ∧ (V.cell? ⟨w.heap.size, 0, none⟩ = some (.int .i64 k) ∧ V.cell? ⟨w.heap.size, 1, none⟩ = some (.string nm) ∧ V.cell? ⟨w.heap.size, 2, none⟩ = some (.string dt) ∧ V.cell? ⟨w.heap.size, 3, none⟩ = some (.int .i64 0)) ∧ V.cell? ⟨E, 8, none⟩ = some (.map (some W))) ∧ Below w.heap.size w V ∧ W1.heap.size < V.heap.size) := fun V hV => ⟨⟨(five_ofR ((hV.block _ l3).trans k3)).1, (four_ofF ((hV.block _ (by omega)).trans ((hb3.block _ l1).trans k1))).1, (hV.cell (show E < W3.heap.size by have := HB3.out.size; omega)).trans ((HB3.out.cell hlE).trans c8)⟩, HB3.out.trans (hV.mono HB3.out.size), by have := hV.size; omega⟩
  have HNB := Lib.hid (And.intro hdt hm)
  have hds : dt.size ≤ 1408 := by omega
  clear hE ht hM hn hv hdt hf hfo k1 k2 k3 hb hb2 hb3 HB3 h0 h1 h2 h3 h4 xf
  unfold callV
  go_enter Tryz.func58, Tryz.ntmps58
  go_wp2_with fail
  refine HSN.out.mono ?_
  rintro e w4 ⟨rfl, hb4⟩
  clear u0 u1 u2 u3 u4 v0 v1 v2 v3 x0 x1 x2 x3 x4 y0 y1 y2 y3 z0 z1 z2 z3 g0 g1 g2 g3 g4
  obtain ⟨⟨⟨u0, u1, u2, u3, u4⟩, ⟨v0, v1, v2, v3⟩, c8b⟩, hB4, l4⟩ := HCE.out w4 hb4
  have HVN4 := Lib.hid (HVN2.out w4)
  have HB4 := Lib.hid hb4
  clear hb4 hB4 HSN
  go_wp2_with fail
  refine HVN4.out.mono ?_
  rintro e w5 ⟨rfl, hb5⟩
  have hb35 : Below W3.heap.size W3 w5 := HB4.out.trans (hb5.mono HB4.out.size)
  clear u0 u1 u2 u3 u4 v0 v1 v2 v3 c8b
  obtain ⟨⟨⟨u0, u1, u2, u3, u4⟩, ⟨v0, v1, v2, v3⟩, c8b⟩, hB5, l5⟩ := HCE.out w5 hb35
  have HB5 := Lib.hid (And.intro hb35 hB5)
  have hE5 : E < w5.heap.size := by have := hB5.size; omega
  have hw5 : w.heap.size < w5.heap.size := by omega
  clear hb35 hB5 hb5 HVN4 HB4 l4
  go_wp2_with fail
  go_region_law (first
    | (go_simp; go_at_call 84; refine (HFN.out _ (by first | exact HB5.out.2.drew | exact (HB5.out.2.alloc HB5.out.2.size _).drew)).mono ?_; rintro e w6 ⟨rfl, hb6⟩; have HB6 : Hid (Below W3.heap.size W3 w6) := (by first | exact HB5.out.1.drew.trans (hb6.mono HB5.out.1.size) | exact (HB5.out.1.alloc HB5.out.1.size _).drew.trans (hb6.mono (by have := HB5.out.1.size; simp; omega))); (try (have k7 := (hb6.block w5.heap.size (by simp)).trans (heap_alloc_new w5 _); obtain ⟨⟨p0, p1, p2, p3⟩, q0, q1, q2, q3⟩ := four_ofF k7; have l7 : w5.heap.size < w6.heap.size := (Array.getElem?_eq_some_iff.1 k7).1; clear k7)); obtain ⟨⟨⟨t0, t1, t2, t3, t4⟩, ⟨s0, s1, s2, s3⟩, c8c⟩, hB6, l6⟩ := HCE.out w6 HB6.out; clear hb6 hB6))
  all_goals
    have l8 : ¬ W1.heap.size = w5.heap.size := by omega
    have l9 : ¬ w.heap.size = w5.heap.size := by omega
    have l10 : ¬ W1.heap.size = w6.heap.size := by omega
    have l11 : ¬ w.heap.size = w6.heap.size := by omega
    have l12 : w.heap.size < w6.heap.size := by omega
    clear u0 u1 u2 u3 u4 v0 v1 v2 v3 c8b
    have HBW : Hid (∀ V, Below w6.heap.size w6 V → Below w.heap.size w V) := fun V hV => (HCE.out w6 HB6.out).2.1.trans (hV.mono (HCE.out w6 HB6.out).2.1.size)
    go_wp2_with fail
    refine (HNS.out _).mono ?_
    rintro e w7 ⟨rfl, hb7⟩
    have HRS7 := Lib.hid (HRS.out w7 (by
      have hb := (HCE.out w6 HB6.out).2.1
      refine Below.trans ?_ (hb7.mono ?_)
      · repeat' (first | with_reducible refine Below.setCell ?_ ?_ _ | with_reducible refine Below.alloc ?_ ?_ _ | with_reducible refine Below.drew ?_ | with_reducible assumption | with_reducible exact Below.refl _ _ | (simp; done) | (simp; omega) | omega)
      · simp; omega))
    clear hb7
    go_wp2_with fail
    refine HRS7.out.mono ?_
    rintro e w8 ⟨rfl, hb8⟩
    have HB8 := Lib.hid hb8
    clear hb8
    go_wp2
    go_ret
    exact ⟨rfl, HB8.out⟩
end Go.Proofs.YtonpdbajoidigaaGreatDoor
