/-
  The specification's FormatDisk, at a valid geometry.
-/
import Derived.Test.YtkkammbfomiofacFmt
namespace Go.Proofs.Ytkkammbfomiofac
open Go.RowKit
set_option linter.unusedSimpArgs false
set_option linter.unusedVariables false

theorem owns_baseF {w : World} {B B' e sz n : Nat} {s : Value} {xs : List Value} (h : w.ownsRow B e sz s n xs) (hB : B' ≤ B) : w.ownsRow B' e sz s n xs := by
  refine ⟨h.1, h.2.imp id ?_⟩
  rintro ⟨g, cap, cur, e1, hg, rest⟩
  exact ⟨g, cap, cur, e1, by omega, rest⟩
theorem layA_nat {s b : Int} {T N : Nat} (h : vG s b = true) (hT : nblk (2 * (s * b)) = (T : Int)) (hN : logN s b + s * b = (N : Int)) : layA s b = #[.int .i64 (s * b), .int .i64 (T : Int), .int .i64 (logN s b), .int .i64 (N : Int), .int .i64 (s * b - 2 * b)] := by
  unfold layA; rw [h, hT, hN]; rfl
theorem fmt_bounds {s b : Int} {T N : Nat} (h : vG s b = true) (hT : nblk (2 * (s * b)) = (T : Int)) (hN : logN s b + s * b = (N : Int)) : T ≤ 33 ∧ N ≤ 1100 ∧ 2 * (1 + T) + 8 ≤ N := by
  obtain ⟨m1, m2⟩ := vG_mul h
  unfold logN at hN
  rw [hT] at hN
  unfold nblk at hT
  omega

set_option maxHeartbeats 4000000 in
set_option maxRecDepth 100000 in
theorem specFmt_good (s b : Int) (T N : Nat) (w : World) (hv : vG s b = true) (hT : nblk (2 * (s * b)) = (T : Int)) (hN : logN s b + s * b = (N : Int)) :
    Calls Try.prog 26 #[.agg #[.int .i64 s, .int .i64 b]] w fun e w' => ∃ a c, e = .returned (.agg #[.slice a (N * 64) c, .slice none 0 0]) ∧ Row .u8 (fun g => w.heap.size ≤ g ∧ g < w'.heap.size) w' a (N * 64) (padL (List.replicate ((1 + T) * 64) 0 ++ hdrL 1 s b) (N * 64)) ∧ Below w.heap.size w w' := by
  obtain ⟨i0, hi, hz0, hz1, hz2⟩ := info_parts info5
  obtain ⟨v1, v2, v3⟩ := fmt_bounds hv hT hN
  have hL := layout_spec s b
  rw [layA_nat hv hT hN] at hL
  have hE := encodeHeader_spec 1 s b
  have eE : encH 1 s b = hdrL 1 s b := by unfold encH; rw [if_pos (hdr_ok hv)]
  rw [eE] at hE
  have HL : Hid ((hdrL 1 s b).length = 64) := hdrL_len 1 s b
  rw [hdrL_len] at hE
  clear hT hN eE
  generalize hdrL 1 s b = H at *
  generalize s * b = P at *
  generalize logN s b = L at *
  go_enter Try.func26, Try.ntmps26
  go_wp2_with fail
  refine (l3Good_any s b _).mono ?_
  rintro e w1 ⟨rfl, hb1⟩
  rw [hv]
  obtain ⟨k0, k1, hB1⟩ := two_kept hb1
  obtain ⟨⟨c0, c1⟩, _, _⟩ := cells2g k0
  clear hb1 hv
  go_wp2_with fail
  refine (hL _).mono ?_
  rintro e w2 ⟨rfl, hb2⟩
  have z0 := (Array.getElem?_eq_some_iff.1 k0).1
  have z1 := (Array.getElem?_eq_some_iff.1 k1).1
  have j0 := (hb2.block w.heap.size z0).trans k0
  have j1 := (hb2.block (w.heap.size + 1) z1).trans k1
  have hB2 := hB1.trans (hb2.mono hB1.size)
  have y0 := (Array.getElem?_eq_some_iff.1 j0).1
  have y1 := (Array.getElem?_eq_some_iff.1 j1).1
  clear hb2 hL k0 k1 c0 c1 hB1 z0 z1
  go_wp2_with fail
  have e1 : (1 + (T : Int)) * 64 = (((1 + T) * 64 : Nat) : Int) := by omega
  rw [e1]
  refine (l2Pad_big _ 0 _ ((1 + T) * 64) [] _ ⟨rfl, .inl rfl⟩ (by omega) (by omega)).mono ?_
  rintro e w3 ⟨s1, rfl, own3, hb3⟩
  have eZ : padL [] ((1 + T) * 64) = List.replicate ((1 + T) * 64) 0 := by simp [padL]
  rw [eZ] at own3
  have hb3' : Below w2.heap.size w2 w3 := (((Below.refl _ _).alloc (Nat.le_refl _) _).alloc (by simp) _).trans (hb3.mono (by simp; omega))
  have p3 := (hb3.block w2.heap.size (by simp; omega)).trans (heap_alloc2_old w2 _ _)
  have j3 := (hb3'.block w.heap.size y0).trans j0
  have r3 := (hb3'.block (w.heap.size + 1) y1).trans j1
  have hB3 := hB2.trans (hb3'.mono hB2.size)
  have own3' := owns_baseF own3 (B' := w2.heap.size + 1) (by simp)
  have s3 := hb3'.size
  obtain ⟨⟨c0, c1⟩, _, _⟩ := cells2g j3
  obtain ⟨a1, q1, rfl⟩ := owns_shape own3'
  clear hb3 hb3' own3 eZ e1 j0 j1 hB2
  go_wp2_with fail
  refine (hE _).mono ?_
  rintro e w4 ⟨v4', rfl, own4, hb4⟩
  have j4 := (hb4.block w.heap.size (by omega)).trans j3
  have r4 := (hb4.block (w.heap.size + 1) (by omega)).trans r3
  have p4 := (hb4.block w2.heap.size (by have := (Array.getElem?_eq_some_iff.1 p3).1; omega)).trans p3
  have hB4 := hB3.trans (hb4.mono hB3.size)
  have own3'' := owns_below own3' hb4
  obtain ⟨g4, q4, rfl, hc4, hg4⟩ := owns_some own4 (by omega)
  have hl4 := own4.1
  have s4 := hb4.size
  have zp4 := (Array.getElem?_eq_some_iff.1 p4).1
  clear hb4 hE own3' j3 r3 p3 hB3 c0 c1 own4
  go_wp2_with (at_builtin; refine wpList_append_own _ rfl _ _ 24 rfl (w2.heap.size + 1) 5 i0 (.int .u8 0) 1 1 Try.underlying24 hi hz0 hz1 hz2 rfl (by decide) _ _ _ rfl own3'' ⟨g4, 0, none⟩ 64 q4 (u8s H) rfl hl4 hc4 (many_u8 _) (by unfold maxLen; omega) (by omega) (by omega) ?_)
  intro s5 w5 own5 grow5 _
  rw [← u8s_append] at own5
  have ne : ∀ j, j < w2.heap.size + 1 → some j ≠ (Value.slice a1 ((1 + T) * 64) q1).ownBlock := fun j hj h => by have := (own3''.lt j h.symm).1; omega
  have j5 := (grow5.block w.heap.size (by omega) (ne _ (by omega))).trans j4
  have r5 := (grow5.block (w.heap.size + 1) (by omega) (ne _ (by omega))).trans r4
  have p5 := (grow5.block w2.heap.size (by omega) (ne _ (by omega))).trans p4
  have hB5 : Below w.heap.size w w5 := hB4.grown grow5 hB4.size (fun k hk => by have := (own3''.lt k hk).1; have := hB4.size; omega)
  obtain ⟨a5, q5, rfl, row5⟩ := owns_row own5
  obtain ⟨⟨d0, d1, d2, d3, d4⟩, _, _, _, _, _⟩ := cells5 p5
  have s5 := (Array.getElem?_eq_some_iff.1 p5).1
  clear own5 own3'' grow5 ne j4 r4 p4 hB4 hc4 hg4 hl4 j5
  go_wp2_with fail
  have e1 : (N : Int) * 64 = ((N * 64 : Nat) : Int) := by omega
  rw [e1]
  refine (l2Pad_big _ _ _ (N * 64) (List.replicate ((1 + T) * 64) 0 ++ H) _ row5.read (by omega) (by omega)).mono ?_
  rintro e w6 ⟨s6, rfl, own6, hb6⟩
  have r6 := (hb6.block (w.heap.size + 1) (by omega)).trans r5
  have hB6 := hB5.trans (hb6.mono hB5.size)
  obtain ⟨a6, q6, rfl, row6⟩ := owns_row own6
  obtain ⟨⟨x0, x1⟩, f0, f1⟩ := cells2g r6
  have k6 := fun v0 v1 => (Kept.setCell w6 ⟨w.heap.size + 1, 0, none⟩ v0 (fun g => g = w.heap.size + 1) rfl).trans (Kept.setCell _ ⟨w.heap.size + 1, 1, none⟩ v1 (fun g => g = w.heap.size + 1) rfl)
  have hB7 := fun v0 v1 => (hB6.setCell (p := ⟨w.heap.size + 1, 0, none⟩) (Nat.le_succ _) v0).setCell (p := ⟨w.heap.size + 1, 1, none⟩) (Nat.le_succ _) v1
  have row7 := fun v0 v1 => (row6.kept (k6 v0 v1) (fun g h1 h2 => by omega)).mono (G' := fun g => w.heap.size ≤ g ∧ g < ((w6.setCell ⟨w.heap.size + 1, 0, none⟩ v0).setCell ⟨w.heap.size + 1, 1, none⟩ v1).heap.size) (fun g hg => by simp [World.setCell]; omega)
  have HR : Hid (∀ v0 v1, Row .u8 (fun g => w.heap.size ≤ g ∧ g < ((w6.setCell ⟨w.heap.size + 1, 0, none⟩ v0).setCell ⟨w.heap.size + 1, 1, none⟩ v1).heap.size) ((w6.setCell ⟨w.heap.size + 1, 0, none⟩ v0).setCell ⟨w.heap.size + 1, 1, none⟩ v1) a6 (N * 64) (padL (List.replicate ((1 + T) * 64) 0 ++ H) (N * 64))) := row7
  clear own6 hb6 row6 row5 r5 p5 hB5 d0 d1 d2 d3 d4 k6 row7 e1
  go_wp2
  refine bodyPost_ret (v := .agg #[.slice a6 (N * 64) q6, .slice none 0 0]) (by simp [results, Try.results26, go_sem, x0, x1]) rfl ?_
  exact ⟨_, _, rfl, HR.out _ _, hB7 _ _⟩
end Go.Proofs.Ytkkammbfomiofac
