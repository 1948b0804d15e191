/-
  The program's DecodeHeader.
-/
import Derived.Test.YtkkammbfomiofaaDoorDh
namespace Go.Proofs.YtkkammbfomiofaaDoor
open Go.RowKit
set_option linter.unusedSimpArgs false
set_option linter.unusedVariables false

def Byt (xs : List Int) : Prop := ∀ x ∈ xs, 0 ≤ x ∧ x ≤ 255
theorem Byt.at {xs : List Int} (h : Byt xs) (i : Nat) (hi : i < xs.length) : 0 ≤ xs[i]?.getD 0 ∧ xs[i]?.getD 0 ≤ 255 := by
  rw [List.getElem?_eq_getElem hi]; exact h _ (List.getElem_mem hi)
theorem beB_byt (v : Int) (n : Nat) : Byt (beB v n) := by
  induction n generalizing v with
  | zero => intro x hx; simp [beB] at hx
  | succ n ih =>
    intro x hx
    rw [beB, List.mem_append] at hx
    rcases hx with hx | hx
    · exact ih _ x hx
    · simp only [List.mem_singleton] at hx; subst hx; omega
theorem hdrL_byt (s p q : Int) : Byt (hdrL s p q) := by
  intro x hx
  simp only [hdrL, List.mem_append] at hx
  rcases hx with hx | hx | hx | hx | hx
  · exact beB_byt _ _ x hx
  · exact beB_byt _ _ x hx
  · exact beB_byt _ _ x hx
  · have := List.eq_of_mem_replicate hx; omega
  · exact beB_byt _ _ x hx
/-- What is decoded. -/
def decB (xs : List Int) : Bool := decide (xs.length = 64 ∧ xs = encH (hS xs) (hP xs) (hQ xs))
def decV (xs : List Int) : Array Value := if decB xs = true then #[.bool true, .int .i64 (hS xs), .int .i64 (hP xs), .int .i64 (hQ xs)] else #[.bool false, .int .i64 0, .int .i64 0, .int .i64 0]
theorem decV_no {xs : List Int} (h : decB xs = false) : decV xs = #[.bool false, .int .i64 0, .int .i64 0, .int .i64 0] := by unfold decV; rw [h]; rfl
theorem decV_yes {xs : List Int} (h : decB xs = true) : decV xs = #[.bool true, .int .i64 (hS xs), .int .i64 (hP xs), .int .i64 (hQ xs)] := by unfold decV; rw [h]; rfl
theorem decB_len {xs : List Int} (h : xs.length ≠ 64) : decB xs = false := by simp [decB, h]
theorem decB_bad {xs : List Int} (h : hdrB (hS xs) (hP xs) (hQ xs) = false) : decB xs = false := by
  unfold decB encH
  rw [h]
  simp only [decide_eq_false_iff_not]
  rintro ⟨h1, h2⟩
  rw [if_neg (by simp)] at h2
  rw [h2] at h1
  simp at h1
theorem decB_good {xs : List Int} (h : hdrB (hS xs) (hP xs) (hQ xs) = true) (hl : xs.length = 64) : decB xs = decide (xs = hdrL (hS xs) (hP xs) (hQ xs)) := by
  unfold decB encH
  rw [if_pos h]
  simp [hl]

theorem reader_start (w : World) (a : Option Addr) (n c : Nat) : ∀ o1, ((w.alloc o1).alloc (.cells #[.slice a n c] 62)).cell? ⟨w.heap.size + 1, 0, none⟩ = some (.slice a n c) ∧ ((w.alloc o1).alloc (.cells #[.slice a n c] 62)).frozen? ⟨w.heap.size + 1, 0, none⟩ = false := fun o1 => by
  have k := heap_alloc2_new w o1 (.cells #[.slice a n c] 62)
  exact ⟨by rw [cell_of_row _ (w.heap.size + 1) 0 _ _ _ k]; rfl, frozen_of_row _ _ _ _ _ k⟩

set_option maxHeartbeats 1000000 in
theorem decodeHeader_short (a : Option Addr) (n c : Nat) (xs : List Int) (w : World) (ha : IRow .u8 w a n xs) (hx : Byt xs) (hn : n < 12) (hc : n ≤ c) (hm : c ≤ 9223372036854775807) :
    Calls Tryd.prog 15 #[.slice a n c] w fun e w' => e = .returned (.agg #[.bool false, .int .i64 0, .int .i64 0, .int .i64 0]) ∧ Below w.heap.size w w' := by
  have hmf : ∀ (fn : Fn) (first cap : Array Value) (w : World), (Instr.makeFunc fn first cap).run Tryd.prog w = .ok (.func fn first cap) w := fun _ _ _ _ => rfl
  have hby := fun i (hi : i < n) => hx.at i (by rw [ha.1]; exact hi)
  obtain ⟨k1, k2, hb0, s0⟩ := @two_blocks w (.cells #[.bool false, .int .i64 0, .int .i64 0, .int .i64 0] 44) (.cells #[.slice a n c] 62)
  obtain ⟨g1, g2⟩ := reader_start w a n c (.cells #[.bool false, .int .i64 0, .int .i64 0, .int .i64 0] 44)
  go_enter_defers Tryd.func15, Tryd.ntmps15
  go_wp2_with fail
  refine (readHeader_short (w.heap.size + 1) a n c xs w _ ha hb0 (by omega) g1 g2 hn hc hm hby).mono ?_
  rintro e w1 ⟨rfl, hk1⟩
  have kN := (hk1.block w.heap.size (by rw [s0]; omega) (by omega)).trans k1
  have hB1 : Below w.heap.size w w1 := hb0.trans (hk1.below (by rw [s0]; omega) (fun g hg => by omega))
  refine leaves_cons (f := 37) (args := #[.pointer (some ⟨w.heap.size, 0, none⟩)]) (by simp) (by simp [go_sem]) ?_
  refine (catch_out w.heap.size _ _ _ _ w1 kN).mono ?_
  rintro e u' w2 ⟨rfl, rfl, hk2, c0, c1, c2, c3⟩
  simp [Leaves, settle, results, Tryd.results15, go_sem, c0, c1, c2, c3]
  exact hB1.trans (hk2.below hB1.size (fun g hg => by omega))

theorem box3 (w1 : World) (s p q : Int) : Below w1.heap.size w1 (w1.alloc (.cells #[.int .i64 s, .int .i64 p, .int .i64 q] 40)) ∧
    (w1.alloc (.cells #[.int .i64 s, .int .i64 p, .int .i64 q] 40)).cell? ⟨w1.heap.size, 0, none⟩ = some (.int .i64 s) ∧
    (w1.alloc (.cells #[.int .i64 s, .int .i64 p, .int .i64 q] 40)).cell? ⟨w1.heap.size, 1, none⟩ = some (.int .i64 p) ∧
    (w1.alloc (.cells #[.int .i64 s, .int .i64 p, .int .i64 q] 40)).cell? ⟨w1.heap.size, 2, none⟩ = some (.int .i64 q) :=
  ⟨(Below.refl _ _).alloc (Nat.le_refl _) _, three_cells (heap_alloc_new w1 _)⟩

theorem cells4 {w : World} {g : Nat} {x0 x1 x2 x3 : Value} (k1 : w.heap[g]? = some (.cells #[x0, x1, x2, x3] 44 (0, 0))) :
    (w.cell? ⟨g, 0, none⟩ = some x0 ∧ w.cell? ⟨g, 1, none⟩ = some x1 ∧ w.cell? ⟨g, 2, none⟩ = some x2 ∧ w.cell? ⟨g, 3, none⟩ = some x3) ∧ w.frozen? ⟨g, 0, none⟩ = false ∧ w.frozen? ⟨g, 1, none⟩ = false ∧ w.frozen? ⟨g, 2, none⟩ = false ∧ w.frozen? ⟨g, 3, none⟩ = false := by
  refine ⟨⟨?_, ?_, ?_, ?_⟩, ?_, ?_, ?_, ?_⟩
  · rw [cell_of_row w g 0 _ _ _ k1]; rfl
  · rw [cell_of_row w g 1 _ _ _ k1]; rfl
  · rw [cell_of_row w g 2 _ _ _ k1]; rfl
  · rw [cell_of_row w g 3 _ _ _ k1]; rfl
  all_goals simp [World.frozen?, k1]

set_option maxHeartbeats 2000000 in
theorem decodeHeader_long (a : Option Addr) (n c : Nat) (xs : List Int) (w : World) (ha : IRow .u8 w a n xs) (hx : Byt xs) (hn : 12 ≤ n) (hc : n ≤ c) (hm : c ≤ 9223372036854775807) :
    Calls Tryd.prog 15 #[.slice a n c] w fun e w' => e = .returned (.agg (decV xs)) ∧ Below w.heap.size w w' := by
  have hmf : ∀ (fn : Fn) (first cap : Array Value) (w : World), (Instr.makeFunc fn first cap).run Tryd.prog w = .ok (.func fn first cap) w := fun _ _ _ _ => rfl
  have hby := fun i (hi : i < n) => hx.at i (by rw [ha.1]; exact hi)
  obtain ⟨k1, k2, hb0, s0⟩ := @two_blocks w (.cells #[.bool false, .int .i64 0, .int .i64 0, .int .i64 0] 44) (.cells #[.slice a n c] 62)
  obtain ⟨g1, g2⟩ := reader_start w a n c (.cells #[.bool false, .int .i64 0, .int .i64 0, .int .i64 0] 44)
  have HA : Hid (IRow .u8 w a n xs ∧ Byt xs) := ⟨ha, hx⟩
  have HG : Hid (hdrB (hS xs) (hP xs) (hQ xs) = true → xs.length = 64 → decB xs = decide (xs = hdrL (hS xs) (hP xs) (hQ xs))) := decB_good
  have HN : Hid (hdrB (hS xs) (hP xs) (hQ xs) = false → decB xs = false) := decB_bad
  have HY : Hid (decB xs = true → decV xs = #[.bool true, .int .i64 (hS xs), .int .i64 (hP xs), .int .i64 (hQ xs)]) := decV_yes
  have HM : ∀ s p q : Int, Byt (hdrL s p q) := hdrL_byt
  go_enter_defers Tryd.func15, Tryd.ntmps15
  go_wp2_with fail
  refine (readHeader_long (w.heap.size + 1) a n c xs w _ ha hb0 (by omega) g1 g2 hn hc hm hby).mono ?_
  rintro e w1 ⟨rfl, hk1⟩
  have kN := (hk1.block w.heap.size (by rw [s0]; omega) (by omega)).trans k1
  have hB1 : Below w.heap.size w w1 := hb0.trans (hk1.below (by rw [s0]; omega) (fun g hg => by omega))
  have lN : w.heap.size < w1.heap.size := (Array.getElem?_eq_some_iff.1 kN).1
  clear k1 k2 hb0 s0 g1 g2 hk1 ha hx hby
  generalize hS xs = s at *
  generalize hP xs = p at *
  generalize hQ xs = q at *
  obtain ⟨hW, d0, d1, d2⟩ := box3 w1 s p q
  go_wp2_with fail
  refine (validHeader_any s p q _).mono ?_
  rintro e w3 ⟨rfl, hb3⟩
  have hs3 := hb3.size
  have hW1 := hW.size
  have e0 := (hb3.cell (World.block_lt_of_cell? _ _ d0)).trans d0
  have e1 := (hb3.cell (World.block_lt_of_cell? _ _ d1)).trans d1
  have e2 := (hb3.cell (World.block_lt_of_cell? _ _ d2)).trans d2
  have hB3 : Below w.heap.size w w3 := (hB1.trans (hW.mono (by omega))).trans (hb3.mono (by omega))
  have kN3 := ((hb3.block w.heap.size (by omega)).trans (hW.block w.heap.size lN)).trans kN
  clear hW d0 d1 d2 hb3 hs3 hW1 hB1 kN
  obtain ⟨⟨t0, t1, t2, t3⟩, z0, z1, z2, z3⟩ := cells4 kN3
  cases hv : hdrB s p q
  · have HD : Hid (decV xs = #[.bool false, .int .i64 0, .int .i64 0, .int .i64 0]) := decV_no (HN.out hv)
    go_wp2
    refine leaves_cons (f := 37) (args := #[.pointer (some ⟨w.heap.size, 0, none⟩)]) (by simp) (by simp [go_sem]) ?_
    refine (catch_idle w.heap.size _).mono ?_
    rintro e u' w'' ⟨rfl, rfl, rfl⟩
    simp [Leaves, settle, results, Tryd.results15, go_sem, t0, t1, t2, t3, HD.out]
    exact (((hB3.setCell (Nat.le_refl _) _).setCell (Nat.le_refl _) _).setCell (Nat.le_refl _) _).setCell (Nat.le_refl _) _
  · go_wp2_with fail
    refine (headerBlock_any s p q _ hv).mono ?_
    rintro e w4 ⟨rfl, hb4⟩
    have hs4 := hb4.size
    have kN4 := (hb4.block w.heap.size (Array.getElem?_eq_some_iff.1 kN3).1).trans kN3
    have hB4 : Below w.heap.size w w4 := hB3.trans (hb4.mono hB3.size)
    have f0 := (hb4.cell (World.block_lt_of_cell? _ _ e0)).trans e0
    have f1 := (hb4.cell (World.block_lt_of_cell? _ _ e1)).trans e1
    have f2 := (hb4.cell (World.block_lt_of_cell? _ _ e2)).trans e2
    have l4 : w1.heap.size < w4.heap.size := World.block_lt_of_cell? _ _ f0
    clear e0 e1 e2 hb4 hB3 kN3 t0 t1 t2 t3 z0 z1 z2 z3
    by_cases h64 : n = 64
    · subst h64
      rcases HA.out.1.2 with h0 | ⟨g, off, rfl, hcell⟩
      · omega
      clear hcell
      go_wp2_with fail
      refine (isBlock_any g off c xs (hdrL s p q) _ (HA.out.1.below hB4) HA.out.2 (HM s p q) (hdrL_len s p q)).mono ?_
      rintro e w5 ⟨rfl, hb5⟩
      have kN5 := (hb5.block w.heap.size (Array.getElem?_eq_some_iff.1 kN4).1).trans kN4
      have hB5 : Below w.heap.size w w5 := hB4.trans (hb5.mono hB4.size)
      have j0 := (hb5.cell (World.block_lt_of_cell? _ _ f0)).trans f0
      have j1 := (hb5.cell (World.block_lt_of_cell? _ _ f1)).trans f1
      have j2 := (hb5.cell (World.block_lt_of_cell? _ _ f2)).trans f2
      have hdd := HG.out hv HA.out.1.1
      rw [← hdd]
      clear f0 f1 f2 hb5 hB4 kN4 hdd
      obtain ⟨⟨t0, t1, t2, t3⟩, z0, z1, z2, z3⟩ := cells4 kN5
      cases hd : decB xs
      · have HD : Hid (decV xs = #[.bool false, .int .i64 0, .int .i64 0, .int .i64 0]) := decV_no hd
        go_wp2
        refine leaves_cons (f := 37) (args := #[.pointer (some ⟨w.heap.size, 0, none⟩)]) (by simp) (by simp [go_sem]) ?_
        refine (catch_idle w.heap.size _).mono ?_
        rintro e u' w'' ⟨rfl, rfl, rfl⟩
        simp [Leaves, settle, results, Tryd.results15, go_sem, t0, t1, t2, t3, HD.out]
        exact (((hB5.setCell (Nat.le_refl _) _).setCell (Nat.le_refl _) _).setCell (Nat.le_refl _) _).setCell (Nat.le_refl _) _
      · have HD : Hid (decV xs = #[.bool true, .int .i64 s, .int .i64 p, .int .i64 q]) := HY.out hd
        go_wp2
        refine leaves_cons (f := 37) (args := #[.pointer (some ⟨w.heap.size, 0, none⟩)]) (by simp) (by simp [go_sem]) ?_
        refine (catch_idle w.heap.size _).mono ?_
        rintro e u' w'' ⟨rfl, rfl, rfl⟩
        simp [Leaves, settle, results, Tryd.results15, go_sem, t0, t1, t2, t3, HD.out]
        exact (((hB5.setCell (Nat.le_refl _) _).setCell (Nat.le_refl _) _).setCell (Nat.le_refl _) _).setCell (Nat.le_refl _) _
    · have HD : Hid (decV xs = #[.bool false, .int .i64 0, .int .i64 0, .int .i64 0]) := decV_no (decB_len (xs := xs) (by rw [HA.out.1.1]; exact h64))
      go_wp2_with fail
      refine (isBlock_no a n c _ _ h64).mono ?_
      rintro e w5 ⟨rfl, hb5⟩
      have kN5 := (hb5.block w.heap.size (Array.getElem?_eq_some_iff.1 kN4).1).trans kN4
      have hB5 : Below w.heap.size w w5 := hB4.trans (hb5.mono hB4.size)
      clear f0 f1 f2 hb5 hB4 kN4
      obtain ⟨⟨t0, t1, t2, t3⟩, z0, z1, z2, z3⟩ := cells4 kN5
      go_wp2
      refine leaves_cons (f := 37) (args := #[.pointer (some ⟨w.heap.size, 0, none⟩)]) (by simp) (by simp [go_sem]) ?_
      refine (catch_idle w.heap.size _).mono ?_
      rintro e u' w'' ⟨rfl, rfl, rfl⟩
      simp [Leaves, settle, results, Tryd.results15, go_sem, t0, t1, t2, t3, HD.out]
      exact (((hB5.setCell (Nat.le_refl _) _).setCell (Nat.le_refl _) _).setCell (Nat.le_refl _) _).setCell (Nat.le_refl _) _
end Go.Proofs.YtkkammbfomiofaaDoor
