/-
  FnSpace: what is refused, call by call.
-/
import Derived.Test.YtonpdbajoidigaaGreatDoorGv
namespace Go.Proofs.YtonpdbajoidigaaGreatDoor
open Go.RowKit
set_option linter.unusedSimpArgs false
set_option linter.unusedVariables false

/-- A row of the table of calls. -/
def RuleAt (w : World) (k : Nat) (r0 r1 r2 r3 r4 : Bool) : Prop := w.cell? ⟨0, k * 5, none⟩ = some (.bool r0) ∧ w.cell? ⟨0, k * 5 + 1, none⟩ = some (.bool r1) ∧ w.cell? ⟨0, k * 5 + 2, none⟩ = some (.bool r2) ∧ w.cell? ⟨0, k * 5 + 3, none⟩ = some (.bool r3) ∧ w.cell? ⟨0, k * 5 + 4, none⟩ = some (.bool r4)
structure RulesAt (w : World) : Prop where
  write : RuleAt w 1 true true false false true
  read : RuleAt w 2 true false false true false
  delete : RuleAt w 4 true false false true false
  sync : RuleAt w 6 false false false false false
theorem RuleAt.below {B : Nat} {w w' : World} {k : Nat} {r0 r1 r2 r3 r4 : Bool} (h : RuleAt w k r0 r1 r2 r3 r4) (hb : Below B w w') (hB : 0 < B) : RuleAt w' k r0 r1 r2 r3 r4 := by
  obtain ⟨h0, h1, h2, h3, h4⟩ := h
  exact ⟨(hb.cell hB).trans h0, (hb.cell hB).trans h1, (hb.cell hB).trans h2, (hb.cell hB).trans h3, (hb.cell hB).trans h4⟩
theorem RulesAt.below {B : Nat} {w w' : World} (h : RulesAt w) (hb : Below B w w') (hB : 0 < B) : RulesAt w' := ⟨h.write.below hb hB, h.read.below hb hB, h.delete.below hb hB, h.sync.below hb hB⟩
theorem five_set {W : World} {g : Nat} {a0 a1 a2 a3 a4 : Value} {t : TypeId} (h : W.heap[g]? = some (.cells #[a0, a1, a2, a3, a4] t (0, 0))) (b0 b1 b2 b3 b4 : Value) : (((((W.setCell ⟨g, 0, none⟩ b0).setCell ⟨g, 1, none⟩ b1).setCell ⟨g, 2, none⟩ b2).setCell ⟨g, 3, none⟩ b3).setCell ⟨g, 4, none⟩ b4).heap[g]? = some (.cells #[b0, b1, b2, b3, b4] t (0, 0)) := by
  simp [World.setCell, Array.getElem?_modify, h]
theorem five_ofR {W : World} {r : Nat} {v0 v1 v2 v3 v4 : Value} {t : TypeId} (h : W.heap[r]? = some (.cells #[v0, v1, v2, v3, v4] t (0, 0))) : (W.cell? ⟨r, 0, none⟩ = some v0 ∧ W.cell? ⟨r, 1, none⟩ = some v1 ∧ W.cell? ⟨r, 2, none⟩ = some v2 ∧ W.cell? ⟨r, 3, none⟩ = some v3 ∧ W.cell? ⟨r, 4, none⟩ = some v4) ∧ ∀ i, W.frozen? ⟨r, i, none⟩ = false := by
  refine ⟨⟨?_, ?_, ?_, ?_, ?_⟩, fun i => ?_⟩
  all_goals first | simp [World.cell?, h] | simp [World.frozen?, h]
theorem name_size {nm : ByteArray} (h : nameB nm = true) : nm.size ≤ 16 := by
  unfold nameB at h
  simp only [Bool.and_eq_true, decide_eq_true_iff] at h
  exact h.2.2
set_option maxRecDepth 100000 in
set_option maxHeartbeats 4000000 in
theorem refuse_plain (E C : Nat) (s b : Int) (W Dm : Nat) (tb : Value) (q a u o : Int) (hs : List Value) (fs : List FR) (k : Nat) (r : Bool) (nm : ByteArray) (w : World) (hE : EngAt w E C s b W Dm tb q a u o hs) (hM : MF w W fs) (hk : 1 ≤ k) (hk' : k ≤ 8) (hR : RuleAt w k r false false r false) (hn : r = true → nameB nm = true ∧ ∃ f, lookF nm fs = some f) (hn' : r = false → nm = ⟨#[]⟩) :
    Calls Tryz.prog 58 #[.pointer (some ⟨E, 0, none⟩), .agg (callV k nm ⟨#[]⟩)] w fun e w' => e = .returned (.int .i64 0) ∧ Below w.heap.size w w' := by
  obtain ⟨h0, h1, h2, h3, h4⟩ := hR
  have c8 := hE.c8
  have hlE := hE.lt
  have hl0 : 0 < w.heap.size := World.block_lt_of_cell? w _ h0
  obtain ⟨W1, hW1⟩ : ∃ W1, w.alloc (.cells #[.int .i64 k, .string nm, .string ⟨#[]⟩, .int .i64 0] 29) = W1 := ⟨_, rfl⟩
  have hb : Below w.heap.size w W1 := by rw [← hW1]; exact (Below.refl _ _).alloc (Nat.le_refl _) _
  have k1 : W1.heap[w.heap.size]? = some (.cells #[.int .i64 k, .string nm, .string ⟨#[]⟩, .int .i64 0] 29 (0, 0)) := by rw [← hW1]; exact heap_alloc_new w _
  obtain ⟨W2, hW2⟩ : ∃ W2, W1.alloc (.cells #[.bool false, .bool false, .bool false, .bool false, .bool false] 195) = W2 := ⟨_, rfl⟩
  have hb2 : Below W1.heap.size W1 W2 := by rw [← hW2]; exact (Below.refl _ _).alloc (Nat.le_refl _) _
  have k2 : W2.heap[W1.heap.size]? = some (.cells #[.bool false, .bool false, .bool false, .bool false, .bool false] 195 (0, 0)) := by rw [← hW2]; exact heap_alloc_new W1 _
  have l1 : w.heap.size < W1.heap.size := (Array.getElem?_eq_some_iff.1 k1).1
  have l2 : W1.heap.size < W2.heap.size := (Array.getElem?_eq_some_iff.1 k2).1
  obtain ⟨⟨y0, y1, y2, y3⟩, _⟩ := four_ofF k1
  obtain ⟨⟨z0, z1, z2, z3⟩, _⟩ := four_ofF ((hb2.block _ l1).trans k1)
  obtain ⟨⟨x0, x1, x2, x3, x4⟩, xf⟩ := five_ofR k2
  have xf0 := xf 0
  have xf1 := xf 1
  have xf2 := xf 2
  have xf3 := xf 3
  have xf4 := xf 4
  have g0 : W1.cell? ⟨0, k * 5, none⟩ = some (.bool r) := (hb.cell hl0).trans h0
  have g1 : W1.cell? ⟨0, k * 5 + 1, none⟩ = some (.bool false) := (hb.cell hl0).trans h1
  have g2 : W1.cell? ⟨0, k * 5 + 2, none⟩ = some (.bool false) := (hb.cell hl0).trans h2
  have g3 : W1.cell? ⟨0, k * 5 + 3, none⟩ = some (.bool r) := (hb.cell hl0).trans h3
  have g4 : W1.cell? ⟨0, k * 5 + 4, none⟩ = some (.bool false) := (hb.cell hl0).trans h4
  obtain ⟨W3, hW3⟩ : ∃ W3, ((((W2.setCell ⟨W1.heap.size, 0, none⟩ (.bool r)).setCell ⟨W1.heap.size, 1, none⟩ (.bool false)).setCell ⟨W1.heap.size, 2, none⟩ (.bool false)).setCell ⟨W1.heap.size, 3, none⟩ (.bool r)).setCell ⟨W1.heap.size, 4, none⟩ (.bool false) = W3 := ⟨_, rfl⟩
  have k3 : W3.heap[W1.heap.size]? = some (.cells #[.bool r, .bool false, .bool false, .bool r, .bool false] 195 (0, 0)) := by rw [← hW3]; exact five_set k2 _ _ _ _ _
  have hb3 : Below W1.heap.size W1 W3 := by
    rw [← hW3]
    exact ((((hb2.setCell (p := ⟨W1.heap.size, 0, none⟩) (Nat.le_refl _) _).setCell (p := ⟨W1.heap.size, 1, none⟩) (Nat.le_refl _) _).setCell (p := ⟨W1.heap.size, 2, none⟩) (Nat.le_refl _) _).setCell (p := ⟨W1.heap.size, 3, none⟩) (Nat.le_refl _) _).setCell (p := ⟨W1.heap.size, 4, none⟩) (Nat.le_refl _) _
  obtain ⟨⟨u0, u1, u2, u3, u4⟩, _⟩ := five_ofR k3
  obtain ⟨⟨v0, v1, v2, v3⟩, _⟩ := four_ofF ((hb3.block _ l1).trans k1)
  have HB3 : Hid (Below w.heap.size w W3) := hb.trans (hb3.mono hb.size)
  have l3 : W1.heap.size < W3.heap.size := (Array.getElem?_eq_some_iff.1 k3).1
  have hem : (⟨#[]⟩ : ByteArray).toList = [] := by rw [ByteArray.toList_eq]
  have hor : nm.toList = [] ∨ r = true := by
    cases r
    · left; rw [hn' rfl]; exact hem
    · right; rfl
  have HSN : Hid (Calls Tryz.prog 98 #[.agg #[.int .i64 (k : Int), .string nm, .string ⟨#[]⟩, .int .i64 0], .agg #[.bool r, .bool false, .bool false, .bool r, .bool false]] W3 fun e w' => e = .returned (.bool false) ∧ Below W3.heap.size W3 w') := stray_no k nm ⟨#[]⟩ r false false r false W3 hor (.inl hem)
  have HVN : Hid (r = true → ∀ V, Calls Tryz.prog 99 #[.string nm] V fun e w' => e = .returned (.bool true) ∧ Below V.heap.size V w') := fun hr V => (validName_impl nm V (by have := name_size (hn hr).1; omega)).mono fun e w' ⟨h1, h2⟩ => ⟨by rw [h1, (hn hr).1], h2⟩
  obtain ⟨fo, hfo⟩ : ∃ fo, lookF nm fs = fo := ⟨_, rfl⟩
  have hfs : r = true → fo.isSome = true := fun hr => by obtain ⟨_, f, hf⟩ := hn hr; rw [← hfo, hf]; rfl
  obtain ⟨f, hf⟩ : ∃ f, fo.getD FR.none = f := ⟨_, rfl⟩
  have HFN : Hid (∀ V, Below w.heap.size w V → Calls Tryz.prog 84 #[.agg #[.map (some W)], .string nm] V fun e w' => e = .returned (.tuple #[.agg #[.int .i64 f.lid, .string f.nm, .int .i64 f.sz, .slice f.la f.ln f.lc], .bool fo.isSome]) ∧ Below V.heap.size V w') := fun V hV => (findF_any W fs nm fo V (hM.kd (S := fun _ => False) (Kd.of_below hV) id) hfo).mono fun e w' ⟨h1, h2⟩ => ⟨by rw [h1, hf]; rfl, h2⟩
  generalize fo.isSome = fd at *
  have hkt : ((k : Int)).toNat = k := by omega
  have hk1 : ¬ ((k : Int) < 1) := by omega
  have hk8 : ¬ ((8 : Int) < (k : Int)) := by omega
  have hk9 : (k : Int) < 9 := by omega
  have hk0 : (0 : Int) ≤ (k : Int) := by omega
  have HCE : Hid (∀ V, Below W3.heap.size W3 V → ((V.cell? ⟨W1.heap.size, 0, none⟩ = some (.bool r) ∧ V.cell? ⟨W1.heap.size, 1, none⟩ = some (.bool false) ∧ V.cell? ⟨W1.heap.size, 2, none⟩ = some (.bool false) ∧ V.cell? ⟨W1.heap.size, 3, none⟩ = some (.bool r) ∧ V.cell? ⟨W1.heap.size, 4, none⟩ = some (.bool false)) ∧ (V.cell? ⟨w.heap.size, 0, none⟩ = some (.int .i64 k) ∧ V.cell? ⟨w.heap.size, 1, none⟩ = some (.string nm) ∧ V.cell? ⟨w.heap.size, 2, none⟩ = some (.string ⟨#[]⟩) ∧ V.cell? ⟨w.heap.size, 3, none⟩ = some (.int .i64 0)) ∧ V.cell? ⟨E, 8, none⟩ = some (.map (some W))) ∧ Below w.heap.size w V ∧ W1.heap.size < V.heap.size) := fun V hV => ⟨⟨(five_ofR ((hV.block _ l3).trans k3)).1, (four_ofF ((hV.block _ (by omega)).trans ((hb3.block _ l1).trans k1))).1, (hV.cell (show E < W3.heap.size by have := HB3.out.size; omega)).trans ((HB3.out.cell hlE).trans c8)⟩, HB3.out.trans (hV.mono HB3.out.size), by have := hV.size; omega⟩
  clear hE hM hn hn' hor hem hf hfo k1 k2 k3 hb hb2 hb3 HB3 h0 h1 h2 h3 h4 xf
  unfold callV
  cases r
  · clear hfs HVN
    go_enter Tryz.func58, Tryz.ntmps58
    go_wp2_with fail
    refine HSN.out.mono ?_
    rintro e w5 ⟨rfl, hb35⟩
    clear u0 u1 u2 u3 u4 v0 v1 v2 v3 x0 x1 x2 x3 x4 y0 y1 y2 y3 z0 z1 z2 z3 g0 g1 g2 g3 g4
    obtain ⟨⟨⟨u0, u1, u2, u3, u4⟩, ⟨v0, v1, v2, v3⟩, c8b⟩, hB5, l5⟩ := HCE.out w5 hb35
    have HB5 := Lib.hid (And.intro hb35 hB5)
    have hE5 : E < w5.heap.size := by have := hB5.size; omega
    have hw5 : w.heap.size < w5.heap.size := by omega
    clear hb35 hB5 HSN
    go_wp2_with fail
    go_region_law (first
      | (go_simp; go_at_call 84; refine (HFN.out _ (by first | exact HB5.out.2.drew | exact (HB5.out.2.alloc HB5.out.2.size _).drew)).mono ?_; rintro e w6 ⟨rfl, hb6⟩; have HB6 : Hid (Below W3.heap.size W3 w6) := (by first | exact HB5.out.1.drew.trans (hb6.mono HB5.out.1.size) | exact (HB5.out.1.alloc HB5.out.1.size _).drew.trans (hb6.mono (by have := HB5.out.1.size; simp; omega))); (try (have k7 := (hb6.block w5.heap.size (by simp)).trans (heap_alloc_new w5 _); obtain ⟨⟨p0, p1, p2, p3⟩, q0, q1, q2, q3⟩ := four_ofF k7; have l7 : w5.heap.size < w6.heap.size := (Array.getElem?_eq_some_iff.1 k7).1; clear k7)); obtain ⟨⟨⟨t0, t1, t2, t3, t4⟩, ⟨s0, s1, s2, s3⟩, c8c⟩, hB6, l6⟩ := HCE.out w6 HB6.out; clear hb6 hB6))
    all_goals
      have l8 : ¬ W1.heap.size = w5.heap.size := by omega
      have l9 : ¬ w.heap.size = w5.heap.size := by omega
      have l10 : ¬ W1.heap.size = w6.heap.size := by omega
      clear u0 u1 u2 u3 u4 v0 v1 v2 v3 c8b
      go_wp2
      go_ret
      refine ⟨rfl, ?_⟩
      have hb := (HCE.out w6 HB6.out).2.1
      repeat' (first | with_reducible refine Below.setCell ?_ ?_ _ | with_reducible refine Below.alloc ?_ ?_ _ | with_reducible refine Below.drew ?_ | with_reducible assumption | with_reducible exact Below.refl _ _ | (simp; done) | (simp; omega) | omega)
  · have hfd : fd = true := hfs rfl
    have HVN2 := Lib.hid (HVN.out rfl)
    clear HVN
    subst hfd
    clear hfs
    go_enter Tryz.func58, Tryz.ntmps58
    go_wp2_with fail
    refine HSN.out.mono ?_
    rintro e w4 ⟨rfl, hb4⟩
    clear u0 u1 u2 u3 u4 v0 v1 v2 v3 x0 x1 x2 x3 x4 y0 y1 y2 y3 z0 z1 z2 z3 g0 g1 g2 g3 g4
    obtain ⟨⟨⟨u0, u1, u2, u3, u4⟩, ⟨v0, v1, v2, v3⟩, c8b⟩, hB4, l4⟩ := HCE.out w4 hb4
    have HVN4 := Lib.hid (HVN2.out w4)
    have HB4 := Lib.hid hb4
    clear hb4 hB4 HSN
    go_wp2_with fail
    refine HVN4.out.mono ?_
    rintro e w5 ⟨rfl, hb5⟩
    have hb35 : Below W3.heap.size W3 w5 := HB4.out.trans (hb5.mono HB4.out.size)
    clear u0 u1 u2 u3 u4 v0 v1 v2 v3 c8b
    obtain ⟨⟨⟨u0, u1, u2, u3, u4⟩, ⟨v0, v1, v2, v3⟩, c8b⟩, hB5, l5⟩ := HCE.out w5 hb35
    have HB5 := Lib.hid (And.intro hb35 hB5)
    have hE5 : E < w5.heap.size := by have := hB5.size; omega
    have hw5 : w.heap.size < w5.heap.size := by omega
    clear hb35 hB5 hb5 HVN4 HB4 l4
    go_wp2_with fail
    go_region_law (first
      | (go_simp; go_at_call 84; refine (HFN.out _ (by first | exact HB5.out.2.drew | exact (HB5.out.2.alloc HB5.out.2.size _).drew)).mono ?_; rintro e w6 ⟨rfl, hb6⟩; have HB6 : Hid (Below W3.heap.size W3 w6) := (by first | exact HB5.out.1.drew.trans (hb6.mono HB5.out.1.size) | exact (HB5.out.1.alloc HB5.out.1.size _).drew.trans (hb6.mono (by have := HB5.out.1.size; simp; omega))); (try (have k7 := (hb6.block w5.heap.size (by simp)).trans (heap_alloc_new w5 _); obtain ⟨⟨p0, p1, p2, p3⟩, q0, q1, q2, q3⟩ := four_ofF k7; have l7 : w5.heap.size < w6.heap.size := (Array.getElem?_eq_some_iff.1 k7).1; clear k7)); obtain ⟨⟨⟨t0, t1, t2, t3, t4⟩, ⟨s0, s1, s2, s3⟩, c8c⟩, hB6, l6⟩ := HCE.out w6 HB6.out; clear hb6 hB6))
    all_goals
      have l8 : ¬ W1.heap.size = w5.heap.size := by omega
      have l9 : ¬ w.heap.size = w5.heap.size := by omega
      have l10 : ¬ W1.heap.size = w6.heap.size := by omega
      clear u0 u1 u2 u3 u4 v0 v1 v2 v3 c8b
      go_wp2
      go_ret
      refine ⟨rfl, ?_⟩
      have hb := (HCE.out w6 HB6.out).2.1
      repeat' (first | with_reducible refine Below.setCell ?_ ?_ _ | with_reducible refine Below.alloc ?_ ?_ _ | with_reducible refine Below.drew ?_ | with_reducible assumption | with_reducible exact Below.refl _ _ | (simp; done) | (simp; omega) | omega)
end Go.Proofs.YtonpdbajoidigaaGreatDoor
