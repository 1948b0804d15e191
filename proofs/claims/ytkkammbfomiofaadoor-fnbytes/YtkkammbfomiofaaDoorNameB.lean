import Derived.Test.YtkkammbfomiofaaDoorName
import Derived.Laws.NewBlocks
namespace Go.Proofs.YtkkammbfomiofaaDoor
open Go.RowKit

theorem conv_cell (w : World) (s : ByteArray) (cap : Nat) (m : Nat × Nat) (j : Nat) (h : j < s.size) :
    (w.alloc (.cells (bytesRow s cap) 5 m)).drew.cell? ⟨w.heap.size, j, none⟩ = some (.int .u8 ((s[j]).toNat : Int)) := by
  have e := cell_of_row (w.alloc (.cells (bytesRow s cap) 5 m)).drew w.heap.size j (bytesRow s cap) 5 m (heap_alloc_new w _)
  rw [e, bytesRow_at s cap j h]; rfl

set_option maxHeartbeats 1000000 in
theorem validName_impl (s : ByteArray) (w : World) (hs : s.size ≤ 1048576) :
    Calls Tryd.prog 42 #[.string s] w fun e w' => e = .returned (.bool (nameB s)) ∧ Below w.heap.size w w' := by
  by_cases hsz : 1 ≤ s.size ∧ s.size ≤ 16
  · obtain ⟨h1, h2⟩ := hsz
    have t1 : decide ((s.size : Int) < 1) = false := by simp; omega
    have t2 : decide (16 < (s.size : Int)) = false := by simp; omega
    have hcv := fun w s => run_bytes_of_string (P := Tryd.prog) w 9 22 5 s Tryd.underlying9 Tryd.underlying22 Tryd.underlying5
    go_enter Tryd.func42, Tryd.ntmps42
    go_wp2
    go_loopw [16] (fun i wr => ∃ k : Nat, k ≤ s.size ∧ i = .int .i64 k ∧ allB (s.data.toList.take k) = true ∧ (∀ j (h : j < s.size), wr.cell? ⟨w.heap.size, j, none⟩ = some (.int .u8 ((s[j]).toNat : Int))) ∧ Below w.heap.size w wr) (fun i _ => s.size - (intOf i).toNat)
    case atStart => exact ⟨0, Nat.zero_le _, rfl, rfl, fun j h => conv_cell w s _ _ j h, ((Below.refl _ _).alloc (Nat.le_refl _) _).drew⟩
    case round =>
      obtain ⟨k, hk, rfl, hall, hcs, hbel⟩ := hrel
      have HA : Hid (allB (s.data.toList.take k) = true) := hall
      clear hall
      by_cases hlt : k < s.size
      · have b1 : (0 : Int) ≤ ((s[k]).toNat : Int) := by omega
        have b2 : ((s[k]).toNat : Int) ≤ 255 := by have := (s[k]).toNat_lt; omega
        have hck := hcs k hlt
        have HC : Hid (∀ j (h : j < s.size), wr.cell? ⟨w.heap.size, j, none⟩ = some (.int .u8 ((s[j]).toNat : Int))) := hcs
        clear hcs
        cases hb : nbB ((s[k]).toNat : Int)
        · have HN := allB_no s k hlt hb
          have HF : Hid (nameB s = false) := by show nameB s = false; simp [nameB, HN]
          clear HN
          go_wp2_with (go_at_call 51; refine (nameByte_impl _ _ b1 b2).mono ?_; rintro e w' ⟨rfl, rfl⟩; rw [hb])
          go_ret
          exact ⟨ret_bool HF.out.symm, hbel⟩
        · have HS : Hid (allB (s.data.toList.take (k + 1)) = true) := by show _ = true; rw [allB_snoc s k hlt, HA.out, hb]; rfl
          go_wp2_with (go_at_call 51; refine (nameByte_impl _ _ b1 b2).mono ?_; rintro e w' ⟨rfl, rfl⟩; rw [hb])
          go_roundw
          case rel => exact ⟨k + 1, by omega, by go_num, HS.out, HC.out, hbel⟩
          case measure => simp [intOf]; omega
      · have HW : Hid (nameB s = true) := by show _ = _; rw [nameB, ← allB_whole s k hlt, HA.out]; simp; omega
        clear hcs
        go_wp2
        go_ret
        exact ⟨ret_bool HW.out.symm, hbel⟩
  · have HF : Hid (nameB s = false) := by
      show nameB s = false
      simp only [nameB, Bool.and_eq_false_iff, decide_eq_false_iff_not]
      omega
    by_cases h1 : s.size < 1
    · go_enter Tryd.func42, Tryd.ntmps42
      go_wp2
      go_ret
      exact ⟨ret_bool HF.out.symm, Below.refl _ _⟩
    · have h2 : 16 < s.size := by omega
      go_enter Tryd.func42, Tryd.ntmps42
      go_wp2
      go_ret
      exact ⟨ret_bool HF.out.symm, Below.refl _ _⟩

end Go.Proofs.YtkkammbfomiofaaDoor
