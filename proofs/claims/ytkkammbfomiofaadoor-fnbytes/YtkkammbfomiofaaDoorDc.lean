/-
  ranOut, DecodeTable's deferred closure, readEntry.
-/
import Derived.Test.YtkkammbfomiofaaDoorRd
namespace Go.Proofs.YtkkammbfomiofaaDoor
open Go.RowKit
set_option linter.unusedSimpArgs false
set_option linter.unusedVariables false

theorem assert_outT (w : World) : (Instr.typeAssert (.iface 58 (.agg #[])) 20 58 true).run Tryd.prog w = .ok (.tuple #[.agg #[], .bool true]) w := by
  unfold Instr.typeAssert
  simp [run_underlying Tryd.underlying58]

set_option maxHeartbeats 400000 in
theorem ranOut_outT (w : World) : Calls Tryd.prog 24 #[.iface 58 (.agg #[])] w fun e w' => e = .returned (.bool true) ∧ Below w.heap.size w w' := by
  have hta := assert_outT
  go_enter Tryd.func24, Tryd.ntmps24
  go_wp2
  go_ret
  exact ⟨rfl, (Below.refl _ _).alloc (Nat.le_refl _) _⟩
set_option maxHeartbeats 400000 in
theorem ranOut_nilT (w : World) : Calls Tryd.prog 24 #[.nilIface] w fun e w' => e = .returned (.bool false) ∧ w' = w := by
  go_enter Tryd.func24, Tryd.ntmps24
  go_wp2
  go_ret
  exact ⟨rfl, rfl⟩

set_option maxHeartbeats 400000 in
theorem catch_outT (g : Nat) (x0 x1 : Value) (w : World) (hg : w.heap[g]? = some (.cells #[x0, x1] 35 (0, 0))) :
    CallsD Tryd.prog 32 #[.pointer (some ⟨g, 0, none⟩)] (.panicking outV) w fun e u' w' =>
      e = .returned (.tuple #[]) ∧ u' = .panicking [{ v := .iface 58 (.agg #[]), recovered := true }] ∧ Kept (fun x => x = g) w w' ∧ w'.cell? ⟨g, 0, none⟩ = some (.bool false) ∧ w'.cell? ⟨g, 1, none⟩ = some (.slice none 0 0) := by
  refine callsD_of_wpS Tryd.func32 rfl fun c₀ cs hu => ?_
  apply wpS_seq
  apply wpS_region
  simp [wpOpsS, go_sem, recoverD, hu, outV, Tryd.ntmps32, Exit.thenS]
  refine (ranOut_outT w).mono ?_
  rintro e w1 ⟨rfl, hb⟩
  have lg : g < w.heap.size := (Array.getElem?_eq_some_iff.1 hg).1
  have k1 := (hb.block g lg).trans hg
  have t0 : w1.cell? ⟨g, 0, none⟩ = some x0 := by rw [cell_of_row w1 g 0 _ _ _ k1]; rfl
  have t1 : w1.cell? ⟨g, 1, none⟩ = some x1 := by rw [cell_of_row w1 g 1 _ _ _ k1]; rfl
  have z0 : w1.frozen? ⟨g, 0, none⟩ = false := by simp [World.frozen?, k1]
  have z1 : w1.frozen? ⟨g, 1, none⟩ = false := by simp [World.frozen?, k1]
  refine wpS_cond (t := true) (by simp [Act.eval, Array.replicate]) ?_
  simp only [if_true]
  apply wpS_region
  simp [wpOpsS, go_sem, t0, t1, z0, z1, bodyPostS, results, Tryd.results32]
  have hG : (fun x => x = g) g := rfl
  exact ((Kept.of_below hb (fun x => x = g)).trans (Kept.setCell w1 ⟨g, 0, none⟩ (.bool false) (fun x => x = g) hG)).trans (Kept.setCell _ ⟨g, 1, none⟩ (.slice none 0 0) (fun x => x = g) hG)

set_option maxHeartbeats 400000 in
theorem catch_idleT (g : Nat) (w : World) :
    CallsD Tryd.prog 32 #[.pointer (some ⟨g, 0, none⟩)] .returning w fun e u' w' => e = .returned (.tuple #[]) ∧ u' = .returning ∧ w' = w := by
  refine callsD_of_wpS Tryd.func32 rfl fun c₀ cs hu => ?_
  apply wpS_seq
  apply wpS_region
  simp [wpOpsS, go_sem, recoverD, hu, Tryd.ntmps32, Exit.thenS]
  refine (ranOut_nilT w).mono ?_
  rintro e w1 ⟨rfl, rfl⟩
  refine wpS_cond (t := false) (by simp [Act.eval, Array.replicate]) ?_
  simp only [Bool.false_eq_true, if_false]
  refine wpS_of_wp (wp_skip ?_)
  cases c₀
  simp_all [bodyPostS, results, Tryd.results32]

/-- The number of two bytes; the entry that they make. -/
def ent2 (xs : List Int) : Int := numI (xs.take 2)
theorem ent2_bounds {xs : List Int} (hl : 2 ≤ xs.length) (h : ∀ i, i < xs.length → 0 ≤ xs[i]?.getD 0 ∧ xs[i]?.getD 0 ≤ 255) : 0 ≤ ent2 xs ∧ ent2 xs ≤ 65535 ∧ wrap64 (numI (xs.take 2)) = ent2 xs := by
  match xs, hl with
  | x :: y :: l, _ =>
    have h0 := h 0 (by simp)
    have h1 := h 1 (by simp)
    simp at h0 h1
    have e : numI ((x :: y :: l).take 2) = (0 * 256 + x) * 256 + y := rfl
    unfold ent2
    rw [e]
    refine ⟨by omega, by omega, ?_⟩
    unfold wrap64; omega

theorem heap_one {w : World} {r : Nat} {v0 v : Value} {t : TypeId} (h : w.heap[r]? = some (.cells #[v0] t (0, 0))) : (w.setCell ⟨r, 0, none⟩ v).heap[r]? = some (.cells #[v] t (0, 0)) := by
  simp [World.setCell, Array.getElem?_modify, h]

set_option maxHeartbeats 1000000 in
theorem readEntry_long (r : Nat) (a : Option Addr) (n c : Nat) (xs : List Int) (w0 w : World) (ha : IRow .u8 w0 a n xs) (hb : Below w0.heap.size w0 w) (hr : w0.heap.size ≤ r) (h0 : w.cell? ⟨r, 0, none⟩ = some (.slice a n c)) (hf : w.frozen? ⟨r, 0, none⟩ = false) (hk : 2 ≤ n) (hc : n ≤ c) (hm : c ≤ 9223372036854775807) (hby : ∀ i, i < n → 0 ≤ xs[i]?.getD 0 ∧ xs[i]?.getD 0 ≤ 255) :
    Calls Tryd.prog 33 #[.pointer (some ⟨r, 0, none⟩)] w fun e w' => e = .returned (.agg #[.int .i64 (ent2 xs % 32768), .bool (decide (32768 ≤ ent2 xs))]) ∧ Kept (fun g => g = r) w w' ∧ ∃ a' c', w'.cell? ⟨r, 0, none⟩ = some (.slice a' (n - 2) c') ∧ w'.frozen? ⟨r, 0, none⟩ = false ∧ n - 2 ≤ c' ∧ c' ≤ c ∧ IRow .u8 w0 a' (n - 2) (xs.drop 2) ∧ (∀ v0 t, w.heap[r]? = some (.cells #[v0] t (0, 0)) → w'.heap[r]? = some (.cells #[.slice a' (n - 2) c'] t (0, 0))) := by
  have hrw : r < w.heap.size := World.block_lt_of_cell? w _ h0
  have hbA : ∀ o, Below w0.heap.size w0 (w.alloc o) := fun o => hb.alloc hb.size _
  have h0A : ∀ o, (w.alloc o).cell? ⟨r, 0, none⟩ = some (.slice a n c) := fun o => (World.cell?_alloc_old w o _ (by simp; omega)).trans h0
  have hfA : ∀ o, (w.alloc o).frozen? ⟨r, 0, none⟩ = false := fun o => (World.frozen?_alloc_old w o _ (by simp; omega)).trans hf
  have hs0 := hb.size
  obtain ⟨v1, v2, v3⟩ := ent2_bounds (xs := xs) (by rw [ha.1]; exact hk) (fun i hi => hby i (by rw [← ha.1]; exact hi))
  have HV : Hid (wrap64 (numI (xs.take 2)) = ent2 xs) := v3
  clear v3
  go_enter Tryd.func33, Tryd.ntmps33
  go_wp2_with fail
  refine (number_long r a n c 2 xs w0 _ ha (hbA _) hr (h0A _) (hfA _) (by omega) (by omega) (by omega) hc hm hby).mono ?_
  rintro e w1 ⟨rfl, a1, c1, k1, f1, l1, m1, r1, b1, e1⟩
  rw [HV.out]
  have x1 : w1.heap[w.heap.size]? = some (.cells #[.int .i64 0, .bool false] 38 (0, 0)) := by rw [e1, setCell_block (by omega)]; exact heap_alloc_new w _
  have K1 : Kept (fun g => g = r ∨ w.heap.size ≤ g) w w1 := by rw [e1]; exact (Kept.of_below ((Below.refl _ _).alloc (Nat.le_refl _) _) _).trans (Kept.setCell _ _ _ _ (Or.inl rfl))
  have t0 : w1.cell? ⟨w.heap.size, 0, none⟩ = some (.int .i64 0) := by rw [cell_of_row w1 w.heap.size 0 _ _ _ x1]; rfl
  have t1 : w1.cell? ⟨w.heap.size, 1, none⟩ = some (.bool false) := by rw [cell_of_row w1 w.heap.size 1 _ _ _ x1]; rfl
  have z0 : w1.frozen? ⟨w.heap.size, 0, none⟩ = false := by simp [World.frozen?, x1]
  have z1 : w1.frozen? ⟨w.heap.size, 1, none⟩ = false := by simp [World.frozen?, x1]
  have H1 : Hid (∀ v0 t, w.heap[r]? = some (.cells #[v0] t (0, 0)) → w1.heap[r]? = some (.cells #[.slice a1 (n - 2) c1] t (0, 0))) := fun v0 t h => by rw [e1]; exact heap_one ((heap_alloc_old w _ hrw).trans h)
  generalize hve : ent2 xs = v at *
  have HVE : Hid (ent2 xs = v) := hve
  clear hve
  clear h0 hf hb hbA h0A hfA e1 x1 ha
  go_wp2
  refine bodyPost_ret (v := .agg #[.int .i64 (v % 32768), .bool (decide (32768 ≤ v))]) (by simp [results, Tryd.results33, go_sem, t0, t1]) rfl ?_
  refine ⟨by rw [HVE.out], kept_new ((K1.trans (Kept.setCell _ _ _ _ (Or.inr (Nat.le_refl _)))).trans (Kept.setCell _ _ _ _ (Or.inr (Nat.le_refl _)))), a1, c1, ?_, ?_, l1, m1, r1, fun v0 t h => by rw [setCell_block (by omega), setCell_block (by omega)]; exact H1.out v0 t h⟩
  · rw [World.cell?_setCell_other _ _ _ _ (by intro e; injection e with e; omega), World.cell?_setCell_other _ _ _ _ (by intro e; injection e with e; omega)]; exact k1
  · rw [World.frozen?_setCell, World.frozen?_setCell]; exact f1
theorem readEntry_short (r : Nat) (a : Option Addr) (n c : Nat) (w : World) (h0 : w.cell? ⟨r, 0, none⟩ = some (.slice a n c)) (hk : n < 2) :
    Calls Tryd.prog 33 #[.pointer (some ⟨r, 0, none⟩)] w fun e w' => e = .panicked outV ∧ Below w.heap.size w w' := by
  have hrw : r < w.heap.size := World.block_lt_of_cell? w _ h0
  have h0A : ∀ o, (w.alloc o).cell? ⟨r, 0, none⟩ = some (.slice a n c) := fun o => (World.cell?_alloc_old w o _ (by simp; omega)).trans h0
  go_enter Tryd.func33, Tryd.ntmps33
  go_wp2_with fail
  refine (number_short r a n c 2 _ (h0A _) hk).mono ?_
  rintro e w1 ⟨rfl, rfl⟩
  exact ⟨rfl, rfl, (Below.refl _ _).alloc (Nat.le_refl _) _⟩
end Go.Proofs.YtkkammbfomiofaaDoor
