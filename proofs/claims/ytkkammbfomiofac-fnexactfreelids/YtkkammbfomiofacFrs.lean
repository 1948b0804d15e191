/-
  The specification's FreeLids.
-/
import Derived.Test.YtkkammbfomiofacFrc
namespace Go.Proofs.Ytkkammbfomiofac
open Go.RowKit
set_option linter.unusedSimpArgs false
set_option linter.unusedVariables false

theorem freeR_at {es : List (Int × Bool)} {len k : Nat} {nn : Int} (hk : k ≤ len) (h : ((freeL es k).length : Int) = nn) : freeR es len nn = freeL es k := by
  have hq := freeL_prefix es k len hk
  have hl := hq.length_le
  unfold freeR
  rw [if_pos (by omega), show nn.toNat = (freeL es k).length from by omega]
  exact (List.prefix_iff_eq_take.1 hq).symm
theorem one_cellF {w : World} {x : Value} {t : TypeId} : ∀ j u, [x][j]? = some u → (w.alloc (.cells #[x] t)).cell? ((⟨w.heap.size, 0, none⟩ : Addr).add j) = some u := by
  intro j u hj
  match j, hj with
  | 0, hj => simp at hj; subst hj; simp [Addr.add]
theorem one_i64F (x : Int) : ∀ u ∈ [Value.int .i64 x], u.oneCell' = true := by intro u hu; simp at hu; subst hu; rfl
theorem emptyF (w w0 : World) (hb : Below w0.heap.size w0 w) : (w.alloc (.cells #[] 2)).ownsRow w0.heap.size 2 1 (.slice (some ⟨w.heap.size, 0, none⟩) 0 0) 0 [] := ⟨rfl, .inr ⟨_, 0, #[], rfl, hb.size, heap_alloc_new w _, Nat.le_refl _, Nat.zero_le _, rfl, rfl⟩⟩

set_option maxHeartbeats 4000000 in
set_option maxRecDepth 100000 in
theorem freeLids_spec (a : Option Addr) (len ca : Nat) (es : List (Int × Bool)) (nn : Int) (w : World) (ha : ERead w a len es) (hlen : len ≤ 2097152) :
    Calls Try.prog 47 #[.slice a len ca, .int .i64 nn] w fun e W' => ∃ v, e = .returned v ∧ W'.ownsRow w.heap.size 2 1 v (freeR es len nn).length ((freeR es len nn).map (Value.int .i64)) ∧ Below w.heap.size w W' := by
  obtain ⟨i0, hi, hz0, hz1, hz2⟩ := info_parts info2
  have HA : Hid (ERead w a len es) := ha
  clear ha
  go_enter Try.func47, Try.ntmps47
  go_wp2
  go_loopw [5, 6] (fun o i wr => ∃ k : Nat, k ≤ len ∧ i = .int .i64 k ∧ wr.ownsRow w.heap.size 2 1 o (freeL es k).length ((freeL es k).map (Value.int .i64)) ∧ ((freeL es k).length : Int) ≤ max 0 nn ∧ Below w.heap.size w wr) (fun _ i _ => len - (intOf i).toNat)
  case atStart => exact ⟨0, Nat.zero_le _, rfl, emptyF w w (Below.refl _ _), by show (0 : Int) ≤ max 0 nn; omega, (Below.refl _ _).alloc (Nat.le_refl _) _⟩
  case round =>
    obtain ⟨k, hk, rfl, own1, hle, hB1⟩ := hrel
    have hcl := freeL_len es k
    obtain ⟨a5, c5, rfl⟩ := owns_shapeL own1
    have s1 := hB1.size
    by_cases hgo : k < len ∧ ((freeL es k).length : Int) < nn
    · obtain ⟨hlt, hlt2⟩ := hgo
      obtain ⟨g, off, rfl, hcx⟩ := HA.out.2.resolve_left (by omega)
      have c1 : wr.cell? ⟨g, off + k * 2, none⟩ = some (.int .i64 (eA es k)) := (hB1.cell (World.block_lt_of_cell? w _ (hcx k hlt).1)).trans (hcx k hlt).1
      by_cases hx : eA es k = 0
      · have u1 : (eA es k == 0) = true := by simp [hx]
        have HF : Hid ((freeL es (k + 1)).map (Value.int .i64) = (freeL es k).map (Value.int .i64) ++ [.int .i64 ((k : Int) + 1)] ∧ (freeL es (k + 1)).length = (freeL es k).length + 1) := by
          show _ ∧ _
          rw [freeL_yes hx]; simp
        clear hx hcx
        go_wp2_with (at_builtin; refine wpList_append_own _ rfl _ _ 54 rfl w.heap.size 2 i0 (.int .i64 0) 1 8 Try.underlying54 hi hz0 hz1 hz2 rfl (by decide) _ _ _ rfl (own1.alloc _) ⟨wr.heap.size, 0, none⟩ 1 1 [.int .i64 ((k : Int) + 1)] rfl rfl one_cellF (one_i64F _) (by unfold maxLen; omega) (by omega) (by simp; omega) ?_)
        intro o6 w6 own6 grow6 _
        have hB6 : Below w.heap.size w w6 := (hB1.alloc s1 _).grown grow6 (by simp; omega) (fun q hq => (own1.lt q hq).1)
        rw [← HF.out.1, ← HF.out.2] at own6
        have hle6 : ((freeL es (k + 1)).length : Int) ≤ max 0 nn := by have := HF.out.2; omega
        clear own1 grow6
        go_wp2
        go_roundw
        case rel => exact ⟨k + 1, by omega, by go_num, own6, hle6, hB6⟩
        case measure => simp [intOf]; omega
      · have u1 : (eA es k == 0) = false := by simpa using hx
        have HF : Hid (freeL es (k + 1) = freeL es k) := freeL_no hx
        clear hx hcx
        go_wp2
        go_roundw
        case rel => exact ⟨k + 1, by omega, by go_num, by rw [HF.out]; exact own1, by rw [HF.out]; exact hle, hB1⟩
        case measure => simp [intOf]; omega
    · have rN := emptyF wr w hB1
      have hBN := fun o => hB1.alloc s1 o
      by_cases h0 : nn < 0
      · have HR : Hid (freeR es len nn = []) := freeR_neg h0
        have hnl : ¬ ((freeL es k).length : Int) < nn := by omega
        by_cases hkl : k < len
        · go_wp2
          go_ret
          exact ⟨_, rfl, by rw [HR.out]; exact rN, hBN _⟩
        · go_wp2
          go_ret
          exact ⟨_, rfl, by rw [HR.out]; exact rN, hBN _⟩
      by_cases h1 : ((freeL es k).length : Int) < nn
      · have hkl : ¬ k < len := fun h => hgo ⟨h, h1⟩
        have hkl' : k = len := by omega
        have HR : Hid (freeR es len nn = []) := by
          show _ = _
          rw [← hkl']
          exact freeR_none (by omega) hle
        clear hkl'
        go_wp2
        go_ret
        exact ⟨_, rfl, by rw [HR.out]; exact rN, hBN _⟩
      · have HR : Hid (freeR es len nn = freeL es k) := freeR_at hk (by omega)
        by_cases hkl : k < len
        · go_wp2
          go_ret
          exact ⟨_, rfl, by rw [HR.out]; exact own1, hB1⟩
        · go_wp2
          go_ret
          exact ⟨_, rfl, by rw [HR.out]; exact own1, hB1⟩
end Go.Proofs.Ytkkammbfomiofac
