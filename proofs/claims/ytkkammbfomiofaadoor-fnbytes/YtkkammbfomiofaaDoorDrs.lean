/-
  The source of draws: l1Source.
-/
import Derived.Test.YtkkammbfomiofaaDoorDrw
namespace Go.Proofs.YtkkammbfomiofaaDoor
open Go.RowKit
set_option linter.unusedSimpArgs false
set_option linter.unusedVariables false

theorem src_code {w : World} {B : Nat} {t : TypeId} {x0 x1 x2 x3 : Value} (k : w.heap[B]? = some (.cells #[x0, x1, x2, x3] t (0, 0))) (v : Value) : (w.setCell ⟨B, 0, none⟩ v).heap[B]? = some (.cells #[v, x1, x2, x3] t (0, 0)) := by
  simp [World.setCell, Array.getElem?_modify, k]
theorem src_size {w : World} {B : Nat} {t : TypeId} {x0 x1 x2 x3 : Value} (k : w.heap[B]? = some (.cells #[x0, x1, x2, x3] t (0, 0))) (v : Value) : (w.setCell ⟨B, 3, none⟩ v).heap[B]? = some (.cells #[x0, x1, x2, v] t (0, 0)) := by
  simp [World.setCell, Array.getElem?_modify, k]
theorem u8s_take_s (xs : List Int) (k : Nat) (h : k < xs.length) : u8s (xs.take (k + 1)) = u8s (xs.take k) ++ [.int .u8 (xs[k]?.getD 0)] := by
  rw [List.take_succ_eq_append_getElem h, u8s_append, getD_eq _ _ h]; rfl

set_option maxHeartbeats 4000000 in
set_option maxRecDepth 100000 in
theorem l1Source_any (a : Option Addr) (n ca : Nat) (xs : List Int) (w : World) (ha : IRow .u8 w a n xs) (hx : ∀ i, i < n → 0 ≤ xs[i]?.getD 0 ∧ xs[i]?.getD 0 ≤ 255) (hn : n ≤ 2097152) :
    Calls Tryd.prog 17 #[.slice a n ca] w fun e w' => e = .returned (.pointer (some ⟨w.heap.size, 0, none⟩)) ∧ Src w' w.heap.size ∧ Below w.heap.size w w' := by
  obtain ⟨i0, hi, hz0, hz1, hz2⟩ := info_parts info5
  have HX : Hid (xs.length = n) := ha.1
  have HA : Hid (IRow .u8 w a n xs) := ha
  have HY : Hid (∀ i, i < n → 0 ≤ xs[i]?.getD 0 ∧ xs[i]?.getD 0 ≤ 255) := hx
  clear ha hx
  go_enter Tryd.func17, Tryd.ntmps17
  go_wp2
  go_loopw [4] (fun i wr => ∃ (k : Nat) (s : Value), (k ≤ n ∧ k ≤ 4000) ∧ i = .int .i64 k ∧ wr.heap[w.heap.size]? = some (.cells #[s, .int .i64 0, .int .i64 0, .int .i64 0] 80 (0, 0)) ∧ wr.ownsRow (w.heap.size + 1) 5 1 s k (u8s (xs.take k)) ∧ Below w.heap.size w wr) (fun i _ => n - (intOf i).toNat)
  case atStart => exact ⟨0, _, ⟨Nat.zero_le _, Nat.zero_le _⟩, rfl, heap_alloc_new w _, World.ownsRow_nil _ _ _ _, (Below.refl _ _).alloc (Nat.le_refl _) _⟩
  case round =>
    obtain ⟨k, s, ⟨hk1, hk2⟩, rfl, k1, own1, hB1⟩ := hrel
    obtain ⟨a5, c5, rfl⟩ := owns_shape own1
    obtain ⟨⟨y0, y1, y2, y3⟩, f0, f1, f2, f3⟩ := cells4s k1
    have s1 := hB1.size
    have l1 := (Array.getElem?_eq_some_iff.1 k1).1
    by_cases hgo : k < n ∧ k < 4000
    · obtain ⟨g1, g2⟩ := hgo
      obtain ⟨g, off, rfl, hcx⟩ := HA.out.2.resolve_left (by omega)
      have c1 : wr.cell? ⟨g, off + k, none⟩ = some (.int .u8 (xs[k]?.getD 0)) := (hB1.cell (World.block_lt_of_cell? w _ (hcx k g1))).trans (hcx k g1)
      have HS : Hid (u8s (xs.take (k + 1)) = u8s (xs.take k) ++ [.int .u8 (xs[k]?.getD 0)]) := u8s_take_s xs k (by rw [HX.out]; exact g1)
      have g1' : (k : Int) < (n : Int) := by omega
      have g0' : (0 : Int) ≤ (k : Int) := by omega
      have own1d : wr.drew.ownsRow (w.heap.size + 1) 5 1 (.slice a5 k c5) k (u8s (xs.take k)) := own1
      clear hcx
      generalize xs[k]?.getD 0 = x at *
      go_wp2_with fail
      go_region_law (refine step_append_own rfl (.tmp 18) (.tmp 23) 22 rfl (w.heap.size + 1) 5 i0 (.int .u8 0) 1 1 Tryd.underlying22 hi hz0 hz1 hz2 rfl (by decide) (.slice a5 k c5) k _ rfl (own1d.alloc _) ⟨wr.heap.size, 0, none⟩ 1 1 [.int .u8 x] rfl rfl one_cell (one_u8 _) (by unfold maxLen; omega) (by omega) (by simp; omega) ?_; intro v3 w3 own3 grow3; obtain ⟨a6, c6, rfl⟩ := owns_shape own3; have k3 := ((grow3.block w.heap.size (by simp; omega) (fun e => by have := (own1.lt _ e.symm).1; omega)).trans (heap_alloc_old wr.drew _ l1)).trans k1; obtain ⟨⟨x0, x1, x2, x3⟩, q0, q1, q2, q3⟩ := cells4s k3)
      all_goals
        rw [← HS.out] at own3
        have k4 := src_code k3 (.slice a6 (k + 1) c6)
        have hB3 : Below w.heap.size w w3 := (hB1.drew.alloc (by simp; omega) _).grown grow3 (by simp; omega) (fun q hq => by have := (own1.lt q hq).1; omega)
        have hB4 := hB3.setCell (p := ⟨w.heap.size, 0, none⟩) (Nat.le_refl _) (.slice a6 (k + 1) c6)
        have own4 : (w3.setCell ⟨w.heap.size, 0, none⟩ (.slice a6 (k + 1) c6)).ownsRow (w.heap.size + 1) 5 1 (.slice a6 (k + 1) c6) (k + 1) (u8s (xs.take (k + 1))) := ownsRow_setCell_below own3 (by show w.heap.size < w.heap.size + 1; omega) _
        clear own3 grow3 own1 own1d k3 k1
        go_wp2
        go_roundw
        case rel => exact ⟨k + 1, _, ⟨by omega, by omega⟩, by go_num, k4, own4, hB4⟩
        case measure => simp [intOf]; omega
    · have HK : Hid (k ≤ 4000 ∧ k ≤ n) := ⟨hk2, hk1⟩
      obtain ⟨a6, c6, e6, row⟩ := owns_row own1
      injection e6 with e6 _ e7
      subst e6
      have hrow := row.mono (G' := fun g => g ≠ w.heap.size) (fun g hg => by omega)
      have HR : Hid (Row .u8 (fun g => g ≠ w.heap.size) wr a5 k (xs.take k)) := hrow
      have m0 : 0 ≤ (n : Int) % 1000 + 53 := by omega
      have m1 : (n : Int) % 1000 + 53 ≤ 1000002 := by omega
      have k2 := src_mix k1 (.int .i64 ((n : Int) % 1000 + 53))
      have hB2 := hB1.setCell (p := ⟨w.heap.size, 2, none⟩) (Nat.le_refl _) (.int .i64 ((n : Int) % 1000 + 53))
      have HR2 : Hid (Row .u8 (fun g => g ≠ w.heap.size) (wr.setCell ⟨w.heap.size, 2, none⟩ (.int .i64 ((n : Int) % 1000 + 53))) a5 k (xs.take k)) := HR.out.kept (Kept.setCell wr ⟨w.heap.size, 2, none⟩ _ (fun g => g = w.heap.size) rfl) (fun g h1 h2 => h1 h2)
      clear own1 row hrow hk1 hk2
      by_cases hkn : k < n
      · have hk4 : ¬ (k : Int) < 4000 := by omega
        go_wp2
        go_loopw [5] (fun i wq => ∃ (j : Nat) (mx : Int), j ≤ k ∧ i = .int .i64 j ∧ (0 ≤ mx ∧ mx ≤ 1000002) ∧ wq.heap[w.heap.size]? = some (.cells #[.slice a5 k c5, .int .i64 0, .int .i64 mx, .int .i64 0] 80 (0, 0)) ∧ Row .u8 (fun g => g ≠ w.heap.size) wq a5 k (xs.take k) ∧ Below w.heap.size w wq) (fun i _ => k - (intOf i).toNat)
        case atStart => exact ⟨0, _, Nat.zero_le _, rfl, ⟨m0, m1⟩, k2, HR2.out, hB2⟩
        case round =>
          obtain ⟨j, mx, hj, rfl, ⟨mx0, mx1⟩, k5, row5, hB5⟩ := hrel
          obtain ⟨⟨v0, v1, v2, v3⟩, w0, w1, w2, w3⟩ := cells4s k5
          by_cases hjk : j < k
          · obtain ⟨g, off, rfl, hg, hcx⟩ := row5.2.resolve_left (by omega)
            have cb := (hcx j hjk).1
            have hb := HY.out j (by have := HK.out; omega)
            have et : (xs.take k)[j]?.getD 0 = xs[j]?.getD 0 := by rw [List.getElem?_take, if_pos hjk]
            rw [et] at cb
            have hj' : (j : Int) < (k : Int) := by omega
            have hj0 : (0 : Int) ≤ (j : Int) := by omega
            have HR5 : Hid (Row .u8 (fun g => g ≠ w.heap.size) wr (some ⟨g, off, none⟩) k (xs.take k)) := row5
            clear hcx row5 et
            generalize xs[j]?.getD 0 = x at *
            have n0 : 0 ≤ (mx * 257 + x + 1) % 1000003 := Int.emod_nonneg _ (by omega)
            have n1 : (mx * 257 + x + 1) % 1000003 < 1000003 := Int.emod_lt_of_pos _ (by omega)
            have k6 := src_mix (w := wr.drew) k5 (.int .i64 ((mx * 257 + x + 1) % 1000003))
            have hB6 := hB5.drew.setCell (p := ⟨w.heap.size, 2, none⟩) (Nat.le_refl _) (.int .i64 ((mx * 257 + x + 1) % 1000003))
            have HR6 : Hid (Row .u8 (fun g => g ≠ w.heap.size) (wr.drew.setCell ⟨w.heap.size, 2, none⟩ (.int .i64 ((mx * 257 + x + 1) % 1000003))) (some ⟨g, off, none⟩) k (xs.take k)) := HR5.out.kept ((Kept.drew wr _).trans (Kept.setCell wr.drew ⟨w.heap.size, 2, none⟩ _ (fun g => g = w.heap.size) rfl)) (fun g h1 h2 => h1 h2)
            clear k5
            go_wp2
            go_region
            go_wp2
            go_roundw
            case rel => exact ⟨j + 1, _, by omega, by go_num, ⟨n0, by omega⟩, k6, HR6.out, hB6⟩
            case measure => simp [intOf]; omega
          · have hjk' : j = k := by omega
            subst hjk'
            have hS1 := HK.out.1
            have HR5 : Hid (Row .u8 (fun g => g ≠ w.heap.size) wr a5 j (xs.take j)) := row5
            have HY2 : Hid (∀ i, i < j → 0 ≤ (xs.take j)[i]?.getD 0 ∧ (xs.take j)[i]?.getD 0 ≤ 255) := fun i hi => by rw [List.getElem?_take, if_pos hi]; exact HY.out i (by have := HK.out.2; omega)
            have HK5 : Hid (wr.heap[w.heap.size]? = some (.cells #[.slice a5 j c5, .int .i64 0, .int .i64 mx, .int .i64 0] 80 (0, 0))) := k5
            have sz0 : 0 ≤ (j : Int) / 50 ∧ (j : Int) / 50 ≤ 80 := by omega
            have hkk : ∀ (v : Value), Kept (fun g => g = w.heap.size) wr (wr.setCell ⟨w.heap.size, 3, none⟩ v) := fun v => Kept.setCell wr ⟨w.heap.size, 3, none⟩ v _ rfl
            have hB6 := fun v => hB5.setCell (p := ⟨w.heap.size, 3, none⟩) (Nat.le_refl _) v
            clear row5 k5
            by_cases hbig : 7 < 1 + (j : Int) / 50
            · go_wp2
              go_ret
              exact ⟨rfl, ⟨a5, j, c5, 0, mx, 7, xs.take j, src_size (src_size HK5.out _) _, HR5.out.kept ((hkk _).trans (Kept.setCell _ ⟨w.heap.size, 3, none⟩ _ _ rfl)) (fun g h1 h2 => h1 h2), HY2.out, ⟨by omega, by omega, hS1⟩, ⟨mx0, mx1⟩, by omega, by omega⟩, (hB6 _).setCell (p := ⟨w.heap.size, 3, none⟩) (Nat.le_refl _) _⟩
            · exfalso; omega
      · have hk4 : k ≤ 4000 := HK.out.1
        go_wp2
        go_loopw [5] (fun i wq => ∃ (j : Nat) (mx : Int), j ≤ k ∧ i = .int .i64 j ∧ (0 ≤ mx ∧ mx ≤ 1000002) ∧ wq.heap[w.heap.size]? = some (.cells #[.slice a5 k c5, .int .i64 0, .int .i64 mx, .int .i64 0] 80 (0, 0)) ∧ Row .u8 (fun g => g ≠ w.heap.size) wq a5 k (xs.take k) ∧ Below w.heap.size w wq) (fun i _ => k - (intOf i).toNat)
        case atStart => exact ⟨0, _, Nat.zero_le _, rfl, ⟨m0, m1⟩, k2, HR2.out, hB2⟩
        case round =>
          obtain ⟨j, mx, hj, rfl, ⟨mx0, mx1⟩, k5, row5, hB5⟩ := hrel
          obtain ⟨⟨v0, v1, v2, v3⟩, w0, w1, w2, w3⟩ := cells4s k5
          by_cases hjk : j < k
          · obtain ⟨g, off, rfl, hg, hcx⟩ := row5.2.resolve_left (by omega)
            have cb := (hcx j hjk).1
            have hb := HY.out j (by have := HK.out; omega)
            have et : (xs.take k)[j]?.getD 0 = xs[j]?.getD 0 := by rw [List.getElem?_take, if_pos hjk]
            rw [et] at cb
            have hj' : (j : Int) < (k : Int) := by omega
            have hj0 : (0 : Int) ≤ (j : Int) := by omega
            have HR5 : Hid (Row .u8 (fun g => g ≠ w.heap.size) wr (some ⟨g, off, none⟩) k (xs.take k)) := row5
            clear hcx row5 et
            generalize xs[j]?.getD 0 = x at *
            have n0 : 0 ≤ (mx * 257 + x + 1) % 1000003 := Int.emod_nonneg _ (by omega)
            have n1 : (mx * 257 + x + 1) % 1000003 < 1000003 := Int.emod_lt_of_pos _ (by omega)
            have k6 := src_mix (w := wr.drew) k5 (.int .i64 ((mx * 257 + x + 1) % 1000003))
            have hB6 := hB5.drew.setCell (p := ⟨w.heap.size, 2, none⟩) (Nat.le_refl _) (.int .i64 ((mx * 257 + x + 1) % 1000003))
            have HR6 : Hid (Row .u8 (fun g => g ≠ w.heap.size) (wr.drew.setCell ⟨w.heap.size, 2, none⟩ (.int .i64 ((mx * 257 + x + 1) % 1000003))) (some ⟨g, off, none⟩) k (xs.take k)) := HR5.out.kept ((Kept.drew wr _).trans (Kept.setCell wr.drew ⟨w.heap.size, 2, none⟩ _ (fun g => g = w.heap.size) rfl)) (fun g h1 h2 => h1 h2)
            clear k5
            go_wp2
            go_region
            go_wp2
            go_roundw
            case rel => exact ⟨j + 1, _, by omega, by go_num, ⟨n0, by omega⟩, k6, HR6.out, hB6⟩
            case measure => simp [intOf]; omega
          · have hjk' : j = k := by omega
            subst hjk'
            have hS1 := HK.out.1
            have HR5 : Hid (Row .u8 (fun g => g ≠ w.heap.size) wr a5 j (xs.take j)) := row5
            have HY2 : Hid (∀ i, i < j → 0 ≤ (xs.take j)[i]?.getD 0 ∧ (xs.take j)[i]?.getD 0 ≤ 255) := fun i hi => by rw [List.getElem?_take, if_pos hi]; exact HY.out i (by have := HK.out.2; omega)
            have HK5 : Hid (wr.heap[w.heap.size]? = some (.cells #[.slice a5 j c5, .int .i64 0, .int .i64 mx, .int .i64 0] 80 (0, 0))) := k5
            have sz0 : 0 ≤ (j : Int) / 50 ∧ (j : Int) / 50 ≤ 80 := by omega
            have hkk : ∀ (v : Value), Kept (fun g => g = w.heap.size) wr (wr.setCell ⟨w.heap.size, 3, none⟩ v) := fun v => Kept.setCell wr ⟨w.heap.size, 3, none⟩ v _ rfl
            have hB6 := fun v => hB5.setCell (p := ⟨w.heap.size, 3, none⟩) (Nat.le_refl _) v
            clear row5 k5
            by_cases hbig : 7 < 1 + (j : Int) / 50
            · go_wp2
              go_ret
              exact ⟨rfl, ⟨a5, j, c5, 0, mx, 7, xs.take j, src_size (src_size HK5.out _) _, HR5.out.kept ((hkk _).trans (Kept.setCell _ ⟨w.heap.size, 3, none⟩ _ _ rfl)) (fun g h1 h2 => h1 h2), HY2.out, ⟨by omega, by omega, hS1⟩, ⟨mx0, mx1⟩, by omega, by omega⟩, (hB6 _).setCell (p := ⟨w.heap.size, 3, none⟩) (Nat.le_refl _) _⟩
            · have hbig' : 1 + (j : Int) / 50 ≤ 7 := by omega
              go_wp2
              go_ret
              exact ⟨rfl, ⟨a5, j, c5, 0, mx, _, xs.take j, src_size HK5.out _, HR5.out.kept (hkk _) (fun g h1 h2 => h1 h2), HY2.out, ⟨by omega, by omega, hS1⟩, ⟨mx0, mx1⟩, by omega, by omega⟩, hB6 _⟩
end Go.Proofs.YtkkammbfomiofaaDoor
