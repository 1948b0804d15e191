/-
  The specification's DecodeTable.
-/
import Derived.Test.YtkkammbfomiofabTb
import Derived.Test.YtkkammbfomiofabEncL
namespace Go.Proofs.Ytkkammbfomiofab
open Go.RowKit
set_option linter.unusedSimpArgs false
set_option linter.unusedVariables false

set_option maxHeartbeats 1000000 in
theorem specTable_long (a : Option Addr) (n c : Nat) (w : World) (hn : 2048 < n) :
    Calls Try.prog 51 #[.slice a n c] w fun e w' => e = .returned (.agg #[.bool false, .slice none 0 0]) ∧ Below w.heap.size w w' := by
  have HB : ∀ o, Below w.heap.size w (w.alloc o) := fun o => (Below.refl _ _).alloc (Nat.le_refl _) o
  by_cases h2 : n % 2 = 0
  · have u1 : ((n : Int) % 2 != 0) = false := by simp; omega
    go_enter Try.func51, Try.ntmps51
    go_wp2
    exact bodyPost_ret (v := .agg #[.bool false, .slice none 0 0]) (by simp [results, Try.results51, go_sem]) rfl ⟨rfl, HB _⟩
  · have u1 : ((n : Int) % 2 != 0) = true := by simp; omega
    go_enter Try.func51, Try.ntmps51
    go_wp2
    exact bodyPost_ret (v := .agg #[.bool false, .slice none 0 0]) (by simp [results, Try.results51, go_sem]) rfl ⟨rfl, HB _⟩
set_option maxHeartbeats 1000000 in
theorem specTable_odd (a : Option Addr) (n c : Nat) (w : World) (hn : n % 2 = 1) :
    Calls Try.prog 51 #[.slice a n c] w fun e w' => e = .returned (.agg #[.bool false, .slice none 0 0]) ∧ Below w.heap.size w w' := by
  have HB : ∀ o, Below w.heap.size w (w.alloc o) := fun o => (Below.refl _ _).alloc (Nat.le_refl _) o
  have u1 : ((n : Int) % 2 != 0) = true := by simp; omega
  go_enter Try.func51, Try.ntmps51
  go_wp2
  exact bodyPost_ret (v := .agg #[.bool false, .slice none 0 0]) (by simp [results, Try.results51, go_sem]) rfl ⟨rfl, HB _⟩

theorem heap_two {w : World} {r : Nat} {v0 v1 v : Value} {t : TypeId} (h : w.heap[r]? = some (.cells #[v0, v1] t (0, 0))) : (w.setCell ⟨r, 1, none⟩ v).heap[r]? = some (.cells #[v0, v] t (0, 0)) := by
  simp [World.setCell, Array.getElem?_modify, h]
theorem irow_two {w : World} {g off n : Nat} {xs : List Int} (h : IRow .u8 w (some ⟨g, off, none⟩) n xs) (k : Nat) (hk : 2 * k + 2 ≤ n) : IRow .u8 w (some ⟨g, off + 2 * k, none⟩) 2 ((xs.drop (2 * k)).take 2) := by
  obtain ⟨h1, h2⟩ := h
  refine ⟨by simp [h1]; omega, ?_⟩
  rcases h2 with h2 | ⟨g', off', e, hc⟩
  · omega
  · injection e with e
    injection e with e1 e2 e3
    subst e1; subst e2
    refine .inr ⟨g, off + 2 * k, rfl, fun i hi => ?_⟩
    rw [Nat.add_assoc, hc (2 * k + i) (by omega), List.getElem?_take, if_pos hi, List.getElem?_drop]

set_option maxHeartbeats 4000000 in
set_option maxRecDepth 100000 in
theorem specTable_even (a : Option Addr) (n c : Nat) (xs : List Int) (w : World) (ha : IRow .u8 w a n xs) (hx : ∀ i, i < n → 0 ≤ xs[i]?.getD 0 ∧ xs[i]?.getD 0 ≤ 255) (hn : n ≤ 2048) (h2 : n % 2 = 0) (hc : n ≤ c) (hm : c ≤ 9223372036854775807) :
    Calls Try.prog 51 #[.slice a n c] w fun e w' => ∃ v, e = .returned (.agg #[.bool (tabB xs), v]) ∧ (tabB xs = true → w'.ownsRow w.heap.size 97 2 v (n / 2) (eC (ents xs (n / 2)))) ∧ (tabB xs = false → v = .slice none 0 0) ∧ Below w.heap.size w w' := by
  obtain ⟨i2, ki, kz0, kz1, kz2⟩ := info_parts info97
  have HX : Hid (xs.length = n) := ha.1
  have HA : Hid (IRow .u8 w a n xs) := ha
  have HY : Hid (∀ i, i < n → 0 ≤ xs[i]?.getD 0 ∧ xs[i]?.getD 0 ≤ 255) := hx
  have u1 : ((n : Int) % 2 != 0) = false := by simp; omega
  clear ha hx
  go_enter Try.func51, Try.ntmps51
  go_wp2
  go_loopw [4] (fun i wr => ∃ (k : Nat) (s : Value), 2 * k ≤ n ∧ i = .int .i64 (2 * k) ∧ wr.heap[w.heap.size]? = some (.cells #[.bool false, .slice none 0 0] 70 (0, 0)) ∧ wr.heap[w.heap.size + 1]? = some (.cells #[.bool true, s] 70 (0, 0)) ∧ wr.ownsRow (w.heap.size + 1 + 1) 97 2 s k (eC (ents xs k)) ∧ Below w.heap.size w wr ∧ (∀ i, i < k → okI xs i = true)) (fun i _ => n - (intOf i).toNat)
  case atStart =>
    refine ⟨0, .slice none 0 0, by omega, rfl, ?_, ?_, World.ownsRow_nil _ _ _ _, ?_, fun i hi => by omega⟩
    · exact heap_alloc2_old w _ _
    · exact heap_alloc2_new w _ _
    · exact ((Below.refl _ _).alloc (Nat.le_refl _) _).alloc (by simp) _
  case round =>
    obtain ⟨k, s, hk, rfl, k1, k3, own1, hB1, hok⟩ := hrel
    have l1 := (Array.getElem?_eq_some_iff.1 k1).1
    have l3 := (Array.getElem?_eq_some_iff.1 k3).1
    have s1 := hB1.size
    obtain ⟨⟨y0, y1⟩, z0, z1⟩ := cells2t k1
    obtain ⟨⟨y2, y3⟩, z2, z3⟩ := cells2t k3
    obtain ⟨a5, c5, rfl⟩ := owns_shape own1
    by_cases hlt : 2 * k < n
    · obtain ⟨g, off, rfl, hcx⟩ := HA.out.2.resolve_left (by omega)
      have hrow := irow_two (HA.out.below hB1) k (by omega)
      obtain ⟨e1, e2, e3⟩ := ent2_bounds (xs := xs.drop (2 * k)) (by have := HX.out; simp; omega) (fun i hi => by rw [List.getElem?_drop]; exact HY.out _ (by have := HX.out; simp at hi; omega))
      go_wp2_with fail
      refine (l2Number_any _ _ _ ((xs.drop (2 * k)).take 2) _ hrow (by omega)).mono ?_
      rintro e w2 ⟨rfl, hw2⟩
      have hw2' := hw2.symm
      subst hw2'
      rw [e3]
      have HE : Hid (entI xs k = (ent2 (xs.drop (2 * k)) % 32768, decide (32768 ≤ ent2 (xs.drop (2 * k))))) := rfl
      generalize ent2 (xs.drop (2 * k)) = V at *
      clear hrow hcx e3
      go_wp2_with fail
      generalize V % 32768 = x at *
      generalize decide (32768 ≤ V) = b at *
      refine (validEntry_spec x b _).mono ?_
      rintro e w4 ⟨rfl, hb4⟩
      have hb4' : Below wr.heap.size wr w4 := ((Below.refl _ _).alloc (Nat.le_refl _) _).trans (hb4.mono (by simp))
      have k1'' := (hb4'.block w.heap.size (by omega)).trans k1
      have k3'' := (hb4'.block (w.heap.size + 1) (by omega)).trans k3
      have hB4 : Below w.heap.size w w4 := hB1.trans (hb4'.mono hB1.size)
      have own4 : w4.ownsRow (w.heap.size + 1 + 1) 97 2 (.slice a5 k c5) k (eC (ents xs k)) := owns_heapT own1 fun g cur f hB hg => hb4'.block g (Array.getElem?_eq_some_iff.1 hg).1
      have kb := (hb4.block wr.heap.size (by simp)).trans (heap_alloc_new wr _)
      have u0 : w4.cell? ⟨wr.heap.size, 0, none⟩ = some (.int .i64 x) := by rw [cell_of_row w4 _ 0 _ _ _ kb]; rfl
      have u2 : w4.cell? ⟨wr.heap.size, 1, none⟩ = some (.bool b) := by rw [cell_of_row w4 _ 1 _ _ _ kb]; rfl
      have s4 := hB4.size
      have s5 := hb4'.size
      clear hb4 kb own1 k1 k3 y0 y1 y2 y3 z0 z1 z2 z3
      obtain ⟨⟨y0, y1⟩, z0, z1⟩ := cells2t k1''
      obtain ⟨⟨y2, y3⟩, z2, z3⟩ := cells2t k3''
      cases hv : veB x b
      · have HG : Hid (tabB xs = false) := tab_bad k (by rw [HX.out]; omega) (by unfold okI; rw [HE.out]; exact hv)
        clear hb4' own4 k3'' hok
        go_wp2
        refine bodyPost_ret (v := .agg #[.bool false, .slice none 0 0]) (by simp [results, Try.results51, go_sem, y0, y1]) rfl ?_
        exact ⟨_, by rw [HG.out], fun h => by rw [HG.out] at h; (cases h), fun _ => rfl, (hB4.setCell (Nat.le_refl _) _).setCell (Nat.le_refl _) _⟩
      · have HO : Hid (okI xs k = true) := by show _ = _; unfold okI; rw [HE.out]; exact hv
        have HS : Hid (eC (ents xs (k + 1)) = eC (ents xs k) ++ [.int .i64 x, .bool b]) := by show _ = _; rw [eC_succ, HE.out]
        have HOK : Hid (∀ i, i < k → okI xs i = true) := hok
        have v1 := (Array.getElem?_eq_some_iff.1 k1'').1
        have v3 := (Array.getElem?_eq_some_iff.1 k3'').1
        clear hb4' hok
        go_wp2_with (at_builtin; refine wpList_append_own _ rfl _ _ 64 rfl (w.heap.size + 1 + 1) 97 i2 (.agg #[.int .i64 0, .bool false]) 2 16 Try.underlying64 ki kz0 kz1 kz2 rfl (by decide) _ _ _ rfl (own4.alloc _) ⟨w4.heap.size, 0, none⟩ 1 1 [.int .i64 x, .bool b] rfl rfl two_newT (two_oneT _ _) (by unfold maxLen; omega) (by omega) (by simp; omega) ?_)
        intro s' w5 own5 grow5 _
        have hB5 : Below w.heap.size w w5 := (hB4.alloc s4 _).grown grow5 (by simp; omega) (fun k hk => by have := (own4.lt k hk).1; omega)
        have g1 := ((grow5.block _ (by simp; omega) (owns_neT own4 k1'' (by decide))).trans (heap_alloc_old w4 _ v1)).trans k1''
        have g3 := ((grow5.block _ (by simp; omega) (owns_neT own4 k3'' (by decide))).trans (heap_alloc_old w4 _ v3)).trans k3''
        have own6 : w5.ownsRow (w.heap.size + 1 + 1) 97 2 s' (k + 1) (eC (ents xs (k + 1))) := by rw [HS.out]; exact own5
        obtain ⟨a6, c6, rfl⟩ := owns_shape own6
        clear own5 own4 grow5 HS k1'' k3'' y0 y1 y2 y3 z0 z1 z2 z3 u0 u2
        obtain ⟨⟨y2, y3⟩, z2, z3⟩ := cells2t g3
        have g1' := (setCell_block (w := w5) (r := w.heap.size + 1) (o := 1) (b := w.heap.size) (v := .slice a6 (k + 1) c6) (by omega)).trans g1
        have g3' := heap_two g3 (v := .slice a6 (k + 1) c6)
        have hB6 := hB5.setCell (p := ⟨w.heap.size + 1, 1, none⟩) (Nat.le_succ _) (.slice a6 (k + 1) c6)
        have own7 : (w5.setCell ⟨w.heap.size + 1, 1, none⟩ (.slice a6 (k + 1) c6)).ownsRow (w.heap.size + 1 + 1) 97 2 (.slice a6 (k + 1) c6) (k + 1) (eC (ents xs (k + 1))) := owns_heapT own6 fun g cur f hB hg => setCell_block (by omega)
        clear own6 g1 g3 hB5
        go_wp2
        go_roundw
        case rel => exact ⟨k + 1, _, by omega, by go_num, g1', g3', own7, hB6, fun i hi => by
          by_cases e : i = k
          · rw [e]; exact HO.out
          · exact HOK.out i (by omega)⟩
        case measure => simp [intOf]; omega
    · have HG : Hid (tabB xs = true) := tab_good (by rw [HX.out]; exact hn) k (by rw [HX.out]; omega) hok
      have HK : Hid (n / 2 = k) := by show _ = _; omega
      have hge : ¬ ((2 * k : Int) < (n : Int)) := by omega
      clear hok HA HY
      go_wp2
      refine bodyPost_ret (v := .agg #[.bool true, .slice a5 k c5]) (by simp [results, Try.results51, go_sem, y0, y1]) rfl ?_
      refine ⟨_, by rw [HG.out], fun _ => ?_, fun h => absurd (HG.out.symm.trans h) (by decide), (hB1.setCell (Nat.le_refl _) _).setCell (Nat.le_refl _) _⟩
      rw [HK.out]
      refine owns_baseT (owns_heapT own1 fun g cur f hB hg => ?_) (by omega : w.heap.size ≤ w.heap.size + 1 + 1)
      rw [setCell_block (by omega), setCell_block (by omega)]
end Go.Proofs.Ytkkammbfomiofab
