/-
  szWrite, szWriteS, szDisk: how much an argument holds.
-/
import Derived.Test.YtkkammbfomiofabNewL
namespace Go.Proofs.Ytkkammbfomiofab
open Go.RowKit

/-- At pa lie m writes: ws; nothing is said of their sizes. -/
def PRaw (w : World) (pa : Option Addr) (m : Nat) (ws : List WV) : Prop :=
  ws.length = m ∧ (m = 0 ∨ ∃ g off, pa = some ⟨g, off, none⟩ ∧ ∀ i, i < m → w.cell? ⟨g, off + i * 2, none⟩ = some (.int .i64 (wBlk ws i)) ∧ w.cell? ⟨g, off + i * 2 + 1, none⟩ = some (.slice (wA ws i) (wN ws i) (wC ws i))) ∧
  ∀ i, i < m → IRow .u8 w (wA ws i) (wN ws i) (wBs ws i)
theorem PRaw.read {w : World} {pa : Option Addr} {m : Nat} {ws : List WV} (h : PRaw w pa m ws) (hb : ∀ i, i < m → wN ws i ≤ 2097152) : PRead w pa m ws :=
  ⟨h.1, h.2.1, fun i hi => ⟨h.2.2 i hi, hb i hi⟩⟩
theorem PRaw.below {w w' : World} {pa : Option Addr} {m : Nat} {ws : List WV} (h : PRaw w pa m ws) (hb : Below w.heap.size w w') : PRaw w' pa m ws := by
  refine ⟨h.1, ?_, fun i hi => (h.2.2 i hi).below hb⟩
  by_cases hm : m = 0
  · exact .inl hm
  rcases h.2.1 with h0 | ⟨g, off, e, hc⟩
  · exact .inl h0
  · refine .inr ⟨g, off, e, fun i hi => ?_⟩
    rw [hb.cell (World.block_lt_of_cell? w _ (hc i hi).1), hb.cell (World.block_lt_of_cell? w _ (hc i hi).2)]
    exact hc i hi

/-- Every length is one of Go's. -/
def Lens (n : Nat) (ws : List WV) : Prop := ∀ i, i < n → (wN ws i : Int) ≤ 9223372036854775807

theorem szWrite_any (b : Int) (a : Option Addr) (n c : Nat) (l : Int) (w : World) (hn : (n : Int) ≤ 9223372036854775807) (h0 : 0 ≤ l) (h1 : l ≤ 1048576) :
    Calls Try.prog 92 #[.agg #[.int .i64 b, .slice a n c], .int .i64 l] w fun e w' => e = .returned (.int .i64 (if l - n < 0 then -1 else l - n)) ∧ Below w.heap.size w w' := by
  by_cases h : l - (n : Int) < 0
  · rw [if_pos h]
    go_enter Try.func92, Try.ntmps92
    go_wp2_with fail
    refine (szByteS_any _ _ _ _ _ hn h0 h1).mono ?_
    rintro e w1 ⟨rfl, rfl⟩
    rw [if_pos h]
    go_wp2
    go_ret
    exact ⟨rfl, (Below.refl _ _).alloc (Nat.le_refl _) _⟩
  · rw [if_neg h]
    go_enter Try.func92, Try.ntmps92
    go_wp2_with fail
    refine (szByteS_any _ _ _ _ _ hn h0 h1).mono ?_
    rintro e w1 ⟨rfl, rfl⟩
    rw [if_neg (by omega)]
    go_wp2
    go_ret
    exact ⟨rfl, (Below.refl _ _).alloc (Nat.le_refl _) _⟩

set_option maxHeartbeats 1000000 in
theorem szWriteS_any (a : Option Addr) (n ca : Nat) (l : Int) (ws : List WV) (w : World) (ha : PRaw w a n ws) (hl : Lens n ws) (hn : (n : Int) ≤ 9223372036854775807) (h0 : 0 ≤ l) (h1 : l ≤ 1048576) :
    Calls Try.prog 57 #[.slice a n ca, .int .i64 l] w fun e w' => ∃ r : Int, e = .returned (.int .i64 r) ∧ -1 ≤ r ∧ r ≤ l ∧ (0 ≤ r → n ≤ 1048576 ∧ ∀ i, i < n → wN ws i ≤ 1048576) ∧ Below w.heap.size w w' := by
  obtain ⟨hx, ha, hd⟩ := ha
  clear hx hd
  by_cases hneg : l - (n : Int) < 0
  · clear ha
    go_enter Try.func57, Try.ntmps57
    go_wp2
    go_ret
    exact ⟨-1, rfl, by omega, by omega, fun h => absurd h (by omega), Below.refl _ _⟩
  rcases ha with h0' | ⟨g, off, rfl, hc⟩
  · subst h0'
    go_enter Try.func57, Try.ntmps57
    go_wp2
    refine wp_loop_rounds 1 ?_
    rw [rounds_succ]
    go_wp2
    go_ret
    exact ⟨l, ret_int (by omega), by omega, by omega, fun _ => ⟨by omega, fun i hi => absurd hi (by omega)⟩, Below.refl _ _⟩
  · have HL : Hid (Lens n ws) := hl
    clear hl
    go_enter Try.func57, Try.ntmps57
    go_wp2
    go_loopw [1, 5] (fun kk i wr => ∃ (j : Nat) (r : Int), j ≤ n ∧ kk = .int .i64 r ∧ i = .int .i64 j ∧ 0 ≤ r ∧ r ≤ l ∧ (∀ i, i < j → wN ws i ≤ 1048576) ∧ Below w.heap.size w wr) (fun _ i _ => n - (intOf i).toNat)
    case atStart => exact ⟨0, _, Nat.zero_le _, rfl, rfl, by omega, by omega, fun i hi => absurd hi (by omega), Below.refl _ _⟩
    case round =>
      obtain ⟨j, r, hj, rfl, rfl, hr0, hr1, hall, hbel⟩ := hrel
      have HALL : Hid (∀ i, i < j → wN ws i ≤ 1048576) := hall
      clear hall
      by_cases hlt : j < n
      · obtain ⟨c1, c2⟩ := hc j hlt
        rw [← hbel.cell (World.block_lt_of_cell? w _ c1)] at c1
        rw [← hbel.cell (World.block_lt_of_cell? w _ c2)] at c2
        have hlj := HL.out j hlt
        clear hc
        by_cases hng : r - (wN ws j : Int) < 0
        · go_wp2_with fail
          refine (szWrite_any _ _ _ _ _ _ hlj hr0 (by omega)).mono ?_
          rintro e w1 ⟨rfl, hb1⟩
          rw [if_pos hng]
          go_wp2
          go_ret
          exact ⟨-1, rfl, by omega, by omega, fun h => absurd h (by omega), hbel.trans (hb1.mono hbel.size)⟩
        · have HS : Hid (∀ i, i < j + 1 → wN ws i ≤ 1048576) := by
            intro i hi
            by_cases e : i = j
            · subst e; omega
            · exact HALL.out i (by omega)
          go_wp2_with fail
          refine (szWrite_any _ _ _ _ _ _ hlj hr0 (by omega)).mono ?_
          rintro e w1 ⟨rfl, hb1⟩
          rw [if_neg (by omega)]
          go_wp2
          go_roundw
          case rel => exact ⟨j + 1, _, by omega, rfl, by go_num, by omega, by omega, HS.out, hbel.trans (hb1.mono hbel.size)⟩
          case measure => simp [intOf]; omega
      · have hjn : j = n := by omega
        subst hjn
        clear hc
        go_wp2
        go_ret
        exact ⟨r, rfl, by omega, hr1, fun _ => ⟨by omega, HALL.out⟩, hbel⟩

set_option maxHeartbeats 1000000 in
theorem szDisk_any (a p : Option Addr) (n ca m cp : Nat) (l : Int) (ws : List WV) (w : World) (hp : PRaw w p m ws) (hl : Lens m ws) (hn : (n : Int) ≤ 9223372036854775807) (hm : (m : Int) ≤ 9223372036854775807) (h0 : 0 ≤ l) (h1 : l ≤ 1048576) :
    Calls Try.prog 13 #[.agg #[.slice a n ca, .slice p m cp], .int .i64 l] w fun e w' => ∃ r : Int, e = .returned (.int .i64 r) ∧ (0 ≤ r → n ≤ 1048576 ∧ m ≤ 1048576 ∧ ∀ i, i < m → wN ws i ≤ 1048576) ∧ Below w.heap.size w w' := by
  by_cases h : l - (n : Int) < 0
  · clear hp hl
    go_enter Try.func13, Try.ntmps13
    go_wp2_with fail
    refine (szByteS_any _ _ _ _ _ hn h0 h1).mono ?_
    rintro e w1 ⟨rfl, rfl⟩
    rw [if_pos h]
    go_wp2
    go_ret
    exact ⟨-1, rfl, fun h => absurd h (by omega), (Below.refl _ _).alloc (Nat.le_refl _) _⟩
  · go_enter Try.func13, Try.ntmps13
    go_wp2_with fail
    refine (szByteS_any _ _ _ _ _ hn h0 h1).mono ?_
    rintro e w1 ⟨rfl, rfl⟩
    rw [if_neg (by omega)]
    go_wp2_with fail
    refine (szWriteS_any _ _ _ _ ws _ (hp.below ((Below.refl _ _).alloc (Nat.le_refl _) _)) hl hm (by omega) (by omega)).mono ?_
    rintro e w2 ⟨r, rfl, hr0, hr1, hr2, hb⟩
    have hb' : Below w.heap.size w w2 := ((Below.refl _ _).alloc (Nat.le_refl _) _).trans (hb.mono (by simp))
    clear hb hp hl
    by_cases hr : r < 0
    · go_wp2
      go_ret
      exact ⟨-1, rfl, fun h => absurd h (by omega), hb'⟩
    · go_wp2
      go_ret
      exact ⟨r, rfl, fun h' => ⟨by omega, hr2 h'⟩, hb'⟩
end Go.Proofs.Ytkkammbfomiofab
