/-
  markByteS and heldByteS.
-/
import Derived.Test.YtfgfdjcgfbodfaaGreatDoorFill
namespace Go.Proofs.YtfgfdjcgfbodfaaGreatDoor
open Go.RowKit

/-- The marks of n bytes from k on. -/
def marks (k : Int) (n : Nat) : List Int := (List.range n).map fun i : Nat => (k + (i : Int)) % 256
theorem marks_len (k : Int) (n : Nat) : (marks k n).length = n := by simp [marks]
theorem marks_at (k : Int) (n i : Nat) (h : i < n) : (marks k n)[i]?.getD 0 = (k + (i : Int)) % 256 := by simp [marks, h]

theorem step_mark (k : Int) (xs : List Int) (j i : Nat) :
    (if i < j + 1 then (k + (i : Int)) % 256 else xs[i]?.getD 0) = if i = j then (k + (j : Int)) % 256 else if i < j then (k + (i : Int)) % 256 else xs[i]?.getD 0 := by
  by_cases e : i = j
  · subst e; simp
  · rw [if_neg e]; by_cases h : i < j
    · rw [if_pos h, if_pos (by omega)]
    · rw [if_neg h, if_neg (by omega)]

set_option maxHeartbeats 1000000 in
theorem markByteS_any (a : Option Addr) (n ca : Nat) (k : Int) (G : Nat → Prop) (xs : List Int) (w : World) (ha : Row .u8 G w a n xs) (hn : n ≤ 2097152) (h0 : 0 ≤ k) (h1 : k ≤ 35184372088832) :
    Calls Tryz.prog 9 #[.slice a n ca, .int .i64 k] w fun e w' => e = .returned (.int .i64 (k + n)) ∧ Row .u8 G w' a n (marks k n) ∧ Kept G w w' := by
  obtain ⟨hx, ha⟩ := ha
  rcases ha with h0' | ⟨g, off, rfl, hg, hc⟩
  · subst h0'
    go_enter Tryz.func9, Tryz.ntmps9
    go_wp2
    refine wp_loop_rounds 1 ?_
    rw [rounds_succ]
    go_wp2
    go_ret
    exact ⟨ret_int (by omega), ⟨rfl, .inl rfl⟩, Kept.refl _ _⟩
  · have HX : Hid (xs.length = n) := hx
    have HG : Hid (G g) := hg
    clear hx hg
    go_enter Tryz.func9, Tryz.ntmps9
    go_wp2
    go_loopw [1, 5] (fun kk i wr => ∃ j : Nat, j ≤ n ∧ kk = .int .i64 (k + j) ∧ i = .int .i64 j ∧ Cells .u8 wr g off n (fun i => if i < j then (k + (i : Int)) % 256 else xs[i]?.getD 0) ∧ Kept G w wr) (fun _ i _ => n - (intOf i).toNat)
    case atStart => exact ⟨0, Nat.zero_le _, by simp, rfl, by intro i hi; simpa using hc i hi, Kept.refl _ _⟩
    case round =>
      obtain ⟨j, hj, rfl, rfl, hf, hkp⟩ := hrel
      by_cases hlt : j < n
      · have c2 := (hf j hlt).1
        have c3 := (hf j hlt).2
        have hf' := hf.set j hlt ((k + (j : Int)) % 256) (fun i => if i < j + 1 then (k + (i : Int)) % 256 else xs[i]?.getD 0) (fun i _ => step_mark k xs j i)
        have hk' := hkp.trans (Kept.setCell wr ⟨g, off + j, none⟩ (.int .u8 ((k + (j : Int)) % 256)) G HG.out)
        clear hf hc hkp
        simp only [Nat.lt_irrefl, if_false] at c2
        go_wp2
        go_roundw
        case rel => exact ⟨j + 1, by omega, by go_num, by go_num, hf', hk'⟩
        case measure => simp [intOf]; omega
      · have hjn : j = n := by omega
        subst hjn
        have hfin : Row .u8 G wr (some ⟨g, off, none⟩) j (marks k j) := hf.row HG.out (marks_len _ _) (by intro i hi; rw [marks_at _ _ _ hi, if_pos hi])
        clear hf hc
        go_wp2
        go_ret
        exact ⟨ret_int rfl, hfin, hkp⟩

end Go.Proofs.YtfgfdjcgfbodfaaGreatDoor
