/-
  The draw of a header.
-/
import Derived.Test.YtkkammbfomiofaaDoorDrs
namespace Go.Proofs.YtkkammbfomiofaaDoor
open Go.RowKit
set_option linter.unusedSimpArgs false
set_option linter.unusedVariables false

theorem Src.alloc {w : World} {B : Nat} (h : Src w B) (o : Obj) : Src (w.alloc o) B := h.below ((Below.refl _ _).alloc (Nat.le_refl _) _)
theorem Kept.allocK {G : Nat → Prop} {w w' : World} (h : Kept G w w') (o : Obj) : Kept G w (w'.alloc o) := h.trans (Kept.of_below ((Below.refl _ _).alloc (Nat.le_refl _) _) G)
theorem Kept.setNew {G : Nat → Prop} {w w' : World} (h : Kept G w w') (p : Addr) (v : Value) (hp : w.heap.size ≤ p.block) : Kept G w (w'.setCell p v) :=
  ⟨h.os, h.tape, h.output, by simpa [World.setCell] using h.size, fun j hj hg => (Below.heap_setCell _ _ _ _ (by omega)).trans (h.block j hj hg)⟩
theorem three_set {w : World} {g : Nat} {t : TypeId} {x0 x1 x2 : Value} (k : w.heap[g]? = some (.cells #[x0, x1, x2] t (0, 0))) (v : Value) :
    (w.setCell ⟨g, 0, none⟩ v).heap[g]? = some (.cells #[v, x1, x2] t (0, 0)) ∧ (w.setCell ⟨g, 1, none⟩ v).heap[g]? = some (.cells #[x0, v, x2] t (0, 0)) ∧ (w.setCell ⟨g, 2, none⟩ v).heap[g]? = some (.cells #[x0, x1, v] t (0, 0)) := by
  refine ⟨?_, ?_, ?_⟩ <;> simp [World.setCell, Array.getElem?_modify, k]
theorem cells3f {w : World} {g : Nat} {t : TypeId} {x0 x1 x2 : Value} (k1 : w.heap[g]? = some (.cells #[x0, x1, x2] t (0, 0))) :
    (w.cell? ⟨g, 0, none⟩ = some x0 ∧ w.cell? ⟨g, 1, none⟩ = some x1 ∧ w.cell? ⟨g, 2, none⟩ = some x2) ∧ w.frozen? ⟨g, 0, none⟩ = false ∧ w.frozen? ⟨g, 1, none⟩ = false ∧ w.frozen? ⟨g, 2, none⟩ = false := by
  refine ⟨⟨?_, ?_, ?_⟩, ?_, ?_, ?_⟩
  · rw [cell_of_row w g 0 _ _ _ k1]; rfl
  · rw [cell_of_row w g 1 _ _ _ k1]; rfl
  · rw [cell_of_row w g 2 _ _ _ k1]; rfl
  all_goals simp [World.frozen?, k1]

set_option maxHeartbeats 4000000 in
set_option maxRecDepth 100000 in
theorem l2DrawHeader_any (B : Nat) (w : World) (h : Src w B) :
    Calls Tryd.prog 34 #[.pointer (some ⟨B, 0, none⟩)] w fun e w' => ∃ s p q, e = .returned (.agg #[.int .i64 s, .int .i64 p, .int .i64 q]) ∧ Kept (fun g => g = B) w w' := by
  have hBl := h.lt
  go_enter Tryd.func34, Tryd.ntmps34
  go_wp2_with fail
  refine (l1Next_any B 700 _ (h.alloc _) (by omega) (by omega)).mono ?_
  rintro e w1 ⟨v1, rfl, ⟨a1, b1⟩, src1, kp1⟩
  have r1 := (kp1.block w.heap.size (by simp) (by omega)).trans (heap_alloc_new w _)
  have kk1 : Kept (fun g => g = B) w w1 := (Kept.of_below ((Below.refl _ _).alloc (Nat.le_refl _) _) _).trans kp1
  have z1 := (Array.getElem?_eq_some_iff.1 r1).1
  clear kp1 h
  go_wp2_with fail
  refine (l1Next_any B 70 _ src1 (by omega) (by omega)).mono ?_
  rintro e w2 ⟨v2, rfl, ⟨a2, b2⟩, src2, kp2⟩
  have r2 := (kp2.block w.heap.size z1 (by omega)).trans r1
  have kk2 := kk1.trans kp2
  have z2 := (Array.getElem?_eq_some_iff.1 r2).1
  clear kp2 kk1 r1 src1
  go_wp2_with fail
  refine (l1Next_any B 20 _ src2 (by omega) (by omega)).mono ?_
  rintro e w3 ⟨v3, rfl, ⟨a3, b3⟩, src3, kp3⟩
  have r3 := (kp3.block w.heap.size z2 (by omega)).trans r2
  have kk3 := kk2.trans kp3
  have z3 := (Array.getElem?_eq_some_iff.1 r3).1
  clear kp3 kk2 r2 src2
  go_wp2_with fail
  refine (l1Next_any B 16 _ (src3.alloc _) (by omega) (by omega)).mono ?_
  rintro e w4 ⟨v4, rfl, ⟨a4, b4⟩, src4, kp4⟩
  have kp4' : Kept (fun g => g = B) w3 w4 := (Kept.of_below ((Below.refl _ _).alloc (Nat.le_refl _) _) _).trans kp4
  have r4 := (kp4'.block w.heap.size z3 (by omega)).trans r3
  have t4 := (kp4.block w3.heap.size (by simp) (by omega)).trans (heap_alloc_new w3 _)
  have kk4 := kk3.trans kp4'
  have z4 := (Array.getElem?_eq_some_iff.1 t4).1
  clear kp4 kp4' kk3 r3 src3
  have fin : ∀ (wx : World) (s p q : Int), Kept (fun g => g = B) w wx → wx.heap[w.heap.size]? = some (.cells #[.int .i64 0, .int .i64 0, .int .i64 0] 40 (0, 0)) → ∀ v0 v1 v2, Kept (fun g => g = B) w (((wx.setCell ⟨w.heap.size, 0, none⟩ v0).setCell ⟨w.heap.size, 1, none⟩ v1).setCell ⟨w.heap.size, 2, none⟩ v2) := fun wx s p q hk _ v0 v1 v2 => ((hk.setNew ⟨w.heap.size, 0, none⟩ v0 (Nat.le_refl _)).setNew ⟨w.heap.size, 1, none⟩ v1 (Nat.le_refl _)).setNew ⟨w.heap.size, 2, none⟩ v2 (Nat.le_refl _)
  have HFin : Hid (∀ (wx : World), Kept (fun g => g = B) w wx → ∀ v0 v1 v2, Kept (fun g => g = B) w (((wx.setCell ⟨w.heap.size, 0, none⟩ v0).setCell ⟨w.heap.size, 1, none⟩ v1).setCell ⟨w.heap.size, 2, none⟩ v2)) := fun wx hk v0 v1 v2 => ((hk.setNew ⟨w.heap.size, 0, none⟩ v0 (Nat.le_refl _)).setNew ⟨w.heap.size, 1, none⟩ v1 (Nat.le_refl _)).setNew ⟨w.heap.size, 2, none⟩ v2 (Nat.le_refl _)
  clear fin
  by_cases e0 : v4 = 0
  · subst e0
    go_wp2_with fail
    refine (l1Next_any B 2 _ src4 (by omega) (by omega)).mono ?_
    rintro e w5 ⟨v5, rfl, ⟨a5, b5⟩, src5, kp5⟩
    have r5 := (kp5.block w.heap.size (by omega) (by omega)).trans r4
    have t5 := (kp5.block w3.heap.size z4 (by omega)).trans t4
    have kk5 := kk4.trans kp5
    obtain ⟨⟨x0, x1, x2⟩, f0, f1, f2⟩ := cells3f r5
    obtain ⟨⟨y0, y1, y2⟩, g0, g1, g2⟩ := cells3f t5
    have kk6 := fun v => kk5.setNew ⟨w3.heap.size, 0, none⟩ v (by show w.heap.size ≤ w3.heap.size; omega)
    have ne : ¬ w.heap.size = w3.heap.size := by omega
    have ne' : ¬ w3.heap.size = w.heap.size := by omega
    clear kp5 src4 src5 r4 t4 r5 t5 kk4
    go_wp2
    refine bodyPost_ret (v := .agg #[.int .i64 (1099511627776 + v5), .int .i64 (v2), .int .i64 (v3)]) (by simp [results, Tryd.results34, go_sem, x0, x1, x2]) rfl ?_
    exact ⟨_, _, _, rfl, HFin.out _ (kk6 _) _ _ _⟩
  by_cases e1 : v4 = 1
  · subst e1
    go_wp2_with fail
    refine (l1Next_any B 2 _ src4 (by omega) (by omega)).mono ?_
    rintro e w5 ⟨v5, rfl, ⟨a5, b5⟩, src5, kp5⟩
    have r5 := (kp5.block w.heap.size (by omega) (by omega)).trans r4
    have t5 := (kp5.block w3.heap.size z4 (by omega)).trans t4
    have kk5 := kk4.trans kp5
    obtain ⟨⟨x0, x1, x2⟩, f0, f1, f2⟩ := cells3f r5
    obtain ⟨⟨y0, y1, y2⟩, g0, g1, g2⟩ := cells3f t5
    have kk6 := fun v => kk5.setNew ⟨w3.heap.size, 0, none⟩ v (by show w.heap.size ≤ w3.heap.size; omega)
    have ne : ¬ w.heap.size = w3.heap.size := by omega
    have ne' : ¬ w3.heap.size = w.heap.size := by omega
    clear kp5 src4 src5 r4 t4 r5 t5 kk4
    go_wp2
    refine bodyPost_ret (v := .agg #[.int .i64 (-v5), .int .i64 (v2), .int .i64 (v3)]) (by simp [results, Tryd.results34, go_sem, x0, x1, x2]) rfl ?_
    exact ⟨_, _, _, rfl, HFin.out _ (kk6 _) _ _ _⟩
  by_cases e2 : v4 = 2
  · subst e2
    go_wp2_with fail
    refine (l1Next_any B 2 _ src4 (by omega) (by omega)).mono ?_
    rintro e w5 ⟨v5, rfl, ⟨a5, b5⟩, src5, kp5⟩
    have r5 := (kp5.block w.heap.size (by omega) (by omega)).trans r4
    have t5 := (kp5.block w3.heap.size z4 (by omega)).trans t4
    have kk5 := kk4.trans kp5
    obtain ⟨⟨x0, x1, x2⟩, f0, f1, f2⟩ := cells3f r5
    obtain ⟨⟨y0, y1, y2⟩, g0, g1, g2⟩ := cells3f t5
    have kk6 := fun v => kk5.setNew ⟨w3.heap.size, 1, none⟩ v (by show w.heap.size ≤ w3.heap.size; omega)
    have ne : ¬ w.heap.size = w3.heap.size := by omega
    have ne' : ¬ w3.heap.size = w.heap.size := by omega
    clear kp5 src4 src5 r4 t4 r5 t5 kk4
    go_wp2
    refine bodyPost_ret (v := .agg #[.int .i64 (1 + v1), .int .i64 (65535 + v5), .int .i64 (v3)]) (by simp [results, Tryd.results34, go_sem, x0, x1, x2]) rfl ?_
    exact ⟨_, _, _, rfl, HFin.out _ (kk6 _) _ _ _⟩
  by_cases e3 : v4 = 3
  · subst e3
    go_wp2_with fail
    refine (l1Next_any B 2 _ src4 (by omega) (by omega)).mono ?_
    rintro e w5 ⟨v5, rfl, ⟨a5, b5⟩, src5, kp5⟩
    have r5 := (kp5.block w.heap.size (by omega) (by omega)).trans r4
    have t5 := (kp5.block w3.heap.size z4 (by omega)).trans t4
    have kk5 := kk4.trans kp5
    obtain ⟨⟨x0, x1, x2⟩, f0, f1, f2⟩ := cells3f r5
    obtain ⟨⟨y0, y1, y2⟩, g0, g1, g2⟩ := cells3f t5
    have kk6 := fun v => kk5.setNew ⟨w3.heap.size, 2, none⟩ v (by show w.heap.size ≤ w3.heap.size; omega)
    have ne : ¬ w.heap.size = w3.heap.size := by omega
    have ne' : ¬ w3.heap.size = w.heap.size := by omega
    clear kp5 src4 src5 r4 t4 r5 t5 kk4
    go_wp2
    refine bodyPost_ret (v := .agg #[.int .i64 (1 + v1), .int .i64 (v2), .int .i64 (65535 + v5)]) (by simp [results, Tryd.results34, go_sem, x0, x1, x2]) rfl ?_
    exact ⟨_, _, _, rfl, HFin.out _ (kk6 _) _ _ _⟩
  obtain ⟨⟨x0, x1, x2⟩, f0, f1, f2⟩ := cells3f r4
  obtain ⟨⟨y0, y1, y2⟩, g0, g1, g2⟩ := cells3f t4
  have ne : ¬ w.heap.size = w3.heap.size := by omega
  have ne' : ¬ w3.heap.size = w.heap.size := by omega
  by_cases e4 : v4 = 4
  · subst e4
    have kk6 := fun v => kk4.setNew ⟨w3.heap.size, 1, none⟩ v (by show w.heap.size ≤ w3.heap.size; omega)
    clear src4 r4 t4
    go_wp2
    refine bodyPost_ret (v := .agg #[.int .i64 (1 + v1), .int .i64 (-1), .int .i64 (v3)]) (by simp [results, Tryd.results34, go_sem, x0, x1, x2]) rfl ?_
    exact ⟨_, _, _, rfl, HFin.out _ (kk6 _) _ _ _⟩
  · have u0 : (v4 == 0) = false := by simpa using e0
    have u1 : (v4 == 1) = false := by simpa using e1
    have u2 : (v4 == 2) = false := by simpa using e2
    have u3 : (v4 == 3) = false := by simpa using e3
    have u4 : (v4 == 4) = false := by simpa using e4
    clear src4 r4 t4 e0 e1 e2 e3 e4
    go_wp2
    refine bodyPost_ret (v := .agg #[.int .i64 (1 + v1), .int .i64 (v2), .int .i64 (v3)]) (by simp [results, Tryd.results34, go_sem, x0, x1, x2]) rfl ?_
    exact ⟨_, _, _, rfl, HFin.out _ kk4 _ _ _⟩

set_option maxHeartbeats 1000000 in
theorem drawHeader_any (a : Option Addr) (n ca : Nat) (xs : List Int) (w : World) (ha : IRow .u8 w a n xs) (hx : ∀ i, i < n → 0 ≤ xs[i]?.getD 0 ∧ xs[i]?.getD 0 ≤ 255) (hn : n ≤ 2097152) :
    Calls Tryd.prog 12 #[.slice a n ca] w fun e w' => ∃ s p q, e = .returned (.agg #[.int .i64 s, .int .i64 p, .int .i64 q]) ∧ Below w.heap.size w w' := by
  have hb0 : ∀ o, Below w.heap.size w (w.alloc o) := fun o => (Below.refl _ _).alloc (Nat.le_refl _) o
  have HA : Hid (IRow .u8 w a n xs) := ha
  have HX : Hid (∀ i, i < n → 0 ≤ xs[i]?.getD 0 ∧ xs[i]?.getD 0 ≤ 255) := hx
  clear ha hx
  go_enter Tryd.func12, Tryd.ntmps12
  go_wp2_with fail
  refine (l1Source_any _ _ _ xs _ (HA.out.below (hb0 _)) HX.out hn).mono ?_
  rintro e w1 ⟨rfl, src1, hb1⟩
  have es : ∀ o, (w.alloc o).heap.size = w.heap.size + 1 := fun _ => by simp
  rw [es] at src1 ⊢
  have r1 := (hb1.block w.heap.size (by simp)).trans (heap_alloc_new w _)
  have hB1 := (hb0 _).trans (hb1.mono (by simp))
  have z1 := src1.lt
  clear hb1 hb0 es
  go_wp2_with fail
  refine (l2DrawHeader_any _ _ src1).mono ?_
  rintro e w2 ⟨s, p, q, rfl, kp⟩
  have r2 := (kp.block w.heap.size (by omega) (by omega)).trans r1
  have hB2 := hB1.trans (kp.below hB1.size (fun g hg => by omega))
  obtain ⟨⟨x0, x1, x2⟩, f0, f1, f2⟩ := cells3f r2
  have hB3 := fun v0 v1 v2 => ((hB2.setCell (p := ⟨w.heap.size, 0, none⟩) (Nat.le_refl _) v0).setCell (p := ⟨w.heap.size, 1, none⟩) (Nat.le_refl _) v1).setCell (p := ⟨w.heap.size, 2, none⟩) (Nat.le_refl _) v2
  clear kp r1 r2 src1 hB1
  go_wp2
  refine bodyPost_ret (v := .agg #[.int .i64 s, .int .i64 p, .int .i64 q]) (by simp [results, Tryd.results12, go_sem, x0, x1, x2]) rfl ?_
  exact ⟨_, _, _, rfl, hB3 _ _ _⟩
end Go.Proofs.YtkkammbfomiofaaDoor
