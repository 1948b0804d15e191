/-
  Rows of strings.
-/
import Derived.Test.YtkkammbfomiofadDoorFai
import Derived.Test.YtkkammbfomiofadDoorFill
namespace Go.Proofs.YtkkammbfomiofadDoor
open Go.RowKit
set_option linter.unusedSimpArgs false
set_option linter.unusedVariables false

def sAt (ss : List ByteArray) (i : Nat) : ByteArray := ss[i]?.getD ⟨#[]⟩
/-- n strings from the address a on. -/
def SRow (w : World) (a : Option Addr) (n : Nat) (ss : List ByteArray) : Prop :=
  ss.length = n ∧ (n = 0 ∨ ∃ g off, a = some ⟨g, off, none⟩ ∧ ∀ i, i < n → w.cell? ⟨g, off + i, none⟩ = some (.string (sAt ss i)))
/-- .. from the head of block g on. -/
def SHead (w : World) (g n : Nat) (ss : List ByteArray) : Prop :=
  ss.length = n ∧ ∀ i, i < n → w.cell? ⟨g, i, none⟩ = some (.string (sAt ss i))
theorem SRow.below {w w' : World} {a : Option Addr} {n : Nat} {ss : List ByteArray} (h : SRow w a n ss) (hb : Below w.heap.size w w') : SRow w' a n ss := by
  refine ⟨h.1, h.2.imp id ?_⟩
  rintro ⟨g, off, rfl, hc⟩
  exact ⟨g, off, rfl, fun i hi => (hb.cell (World.block_lt_of_cell? w _ (hc i hi))).trans (hc i hi)⟩
theorem SHead.below {w w' : World} {g n : Nat} {ss : List ByteArray} (h : SHead w g n ss) (hb : Below w.heap.size w w') : SHead w' g n ss :=
  ⟨h.1, fun i hi => (hb.cell (World.block_lt_of_cell? w _ (h.2 i hi))).trans (h.2 i hi)⟩
/-- The sum of the sizes. -/
def totS (ss : List ByteArray) : Nat := (ss.map (·.size)).sum
theorem totS_succ (ss : List ByteArray) (k : Nat) (h : k < ss.length) : totS (ss.take (k + 1)) = totS (ss.take k) + (sAt ss k).size := by
  rw [List.take_succ_eq_append_getElem h]
  unfold totS sAt
  rw [List.getElem?_eq_getElem h, List.map_append, List.sum_append]
  rfl
theorem totS_le (ss : List ByteArray) (k : Nat) : totS (ss.take k) ≤ totS ss := by
  conv => rhs; rw [← List.take_append_drop k ss]
  unfold totS
  rw [List.map_append, List.sum_append]
  omega

set_option maxHeartbeats 4000000 in
theorem szStringS_any (a : Option Addr) (n ca : Nat) (ss : List ByteArray) (l : Int) (w : World) (ha : SRow w a n ss) (hz : ∀ i, i < n → (sAt ss i).size ≤ 9223372036854775807) (hn : (n : Int) ≤ 9223372036854775807) (h0 : 0 ≤ l) (h1 : l ≤ 1048576) :
    Calls Tryd.prog 11 #[.slice a n ca, .int .i64 l] w fun e w' => ∃ r : Int, e = .returned (.int .i64 r) ∧ (0 ≤ r → (n : Int) + totS ss ≤ l ∧ r ≤ l) ∧ -1 ≤ r ∧ r ≤ 1048576 ∧ w' = w := by
  by_cases h : l - (n : Int) < 0
  · go_enter Tryd.func11, Tryd.ntmps11
    go_wp2
    go_ret
    exact ⟨-1, rfl, fun h => by omega, by omega, by omega, rfl⟩
  · have HA := Lib.hid ha
    have HZ := Lib.hid hz
    clear ha hz
    go_enter Tryd.func11, Tryd.ntmps11
    go_wp2_with fail
    go_loopw [1, 5] (fun lv i wr => ∃ k : Nat, k ≤ n ∧ i = .int .i64 k ∧ ∃ m : Int, lv = .int .i64 m ∧ 0 ≤ m ∧ m ≤ 1048576 ∧ Hid (m = l - n - totS (ss.take k)) ∧ wr = w) (fun _ i _ => n - (intOf i).toNat)
    case atStart => exact ⟨0, Nat.zero_le _, rfl, _, rfl, by omega, by omega, by show _ = _; simp [totS], rfl⟩
    case round =>
      obtain ⟨k, hk, rfl, m, rfl, hm0, hm1, HM, rfl⟩ := hrel
      by_cases hlt : k < n
      · obtain ⟨g, off, rfl, hc⟩ := HA.out.2.resolve_left (by omega)
        have c1 := hc k hlt
        have hlt' : (k : Int) < (n : Int) := by omega
        have h0' : (0 : Int) ≤ (k : Int) := by omega
        have hzk := HZ.out k hlt
        have HS := Lib.hid (totS_succ ss k (by rw [HA.out.1]; exact hlt))
        clear hc
        generalize hsk : sAt ss k = sk at *
        have HSK := Lib.hid hsk
        clear hsk
        by_cases hng : m - (sk.size : Int) < 0
        · go_wp2
          go_ret
          exact ⟨-1, rfl, fun h => by omega, by omega, by omega, rfl⟩
        · have HM' : Hid (m - (sk.size : Int) = l - n - totS (ss.take (k + 1))) := by
            show _ = _
            rw [HS.out, HM.out]
            omega
          go_wp2
          go_roundw
          case rel => exact ⟨k + 1, by omega, by go_num, _, rfl, by omega, by omega, HM', trivial⟩
          case measure => simp [intOf]; omega
      · have HM' : Hid (m = l - n - totS ss) := by
          have := HM.out
          rw [List.take_of_length_le (by rw [HA.out.1]; omega)] at this
          exact this
        clear HM
        go_wp2
        go_ret
        exact ⟨m, rfl, fun h => by have := HM'.out; omega, by omega, by omega, rfl⟩

theorem infoS : (Tryd.prog.info? 9).map (fun i => (i.zero, i.size, i.bytes)) = some (some (.string ⟨#[]⟩), 1, 16) := by kernel_rfl
/-- n cells from the head of block g on that may be written. -/
def SCells (w : World) (g n : Nat) (f : Nat → ByteArray) : Prop := ∀ i, i < n → w.cell? ⟨g, i, none⟩ = some (.string (f i)) ∧ w.frozen? ⟨g, i, none⟩ = false
theorem SCells.set {w : World} {g n : Nat} {f : Nat → ByteArray} (h : SCells w g n f) (j : Nat) (hj : j < n) (x : ByteArray) (f' : Nat → ByteArray) (hf : ∀ i, i < n → f' i = if i = j then x else f i) : SCells (w.setCell ⟨g, j, none⟩ (.string x)) g n f' := by
  intro i hi
  refine ⟨?_, by rw [World.frozen?_setCell]; exact (h i hi).2⟩
  rw [hf i hi]
  by_cases e : i = j
  · subst e; rw [if_pos rfl]; exact World.cell?_setCell_same _ _ _ (h i hi).1
  · rw [if_neg e, World.cell?_setCell_other _ _ _ _ (by intro e'; injection e' with e1 e2 e3; omega)]; exact (h i hi).1
theorem made_scells {w1 : World} {B g n e : Nat} (h : w1.ownsRow B e 1 (.slice (some ⟨g, 0, none⟩) n n) n (madeCells #[.string ⟨#[]⟩] n).toList) : SCells w1 g n (fun _ => ⟨#[]⟩) := by
  intro i hi
  refine ⟨?_, h.frozenAt i⟩
  rw [h.cellAt i (by omega), toList_madeCells_one]
  simp [hi]
theorem step_s (k i : Nat) (p q : Nat → ByteArray) : (if i < k + 1 then p i else q i) = if i = k then p k else if i < k then p i else q i := by
  by_cases e : i = k
  · subst e; simp
  · by_cases h : i < k
    · rw [if_pos (by omega), if_neg e, if_pos h]
    · rw [if_neg (by omega), if_neg e, if_neg h]

set_option maxHeartbeats 1000000 in
theorem toStringS_any (a : Option Addr) (n ca : Nat) (ss : List ByteArray) (w : World) (ha : SRow w a n ss) (hn : n ≤ 2097152) :
    Calls Tryd.prog 14 #[.slice a n ca] w fun e w' => e = .returned (.slice (some ⟨w.heap.size, 0, none⟩) n n) ∧ SHead w' w.heap.size n ss ∧ Below w.heap.size w w' ∧ w.heap.size < w'.heap.size := by
  obtain ⟨i0, hi, hz0, hz1, hz2⟩ := info_parts infoS
  obtain ⟨hx, ha⟩ := ha
  rcases ha with h0 | ⟨g, off, rfl, hc⟩
  · subst h0
    go_enter Tryd.func14, Tryd.ntmps14
    go_wp2_with (at_make; refine wpList_make_full _ rfl _ _ 24 rfl w.heap.size 9 i0 (.string ⟨#[]⟩) 1 Tryd.underlying24 hi hz0 hz1 .i64 .i64 _ _ 0 rfl rfl rfl rfl ?c1 ?c2 ?c3 ?_)
    case c1 => rw [hz2]; omega
    case c2 => unfold maxLen; omega
    case c3 => exact Nat.le_refl _
    intro w1 hown hgrow
    have hsz := made_size hown
    have hbel := Below.of_grown hgrow
    clear hown hgrow
    go_wp2
    refine wp_loop_rounds 1 ?_
    rw [rounds_succ]
    go_wp2
    go_ret
    exact ⟨rfl, ⟨hx, fun i hi => by omega⟩, hbel, hsz⟩
  · have HX : Hid (ss.length = n) := hx
    clear hx
    go_enter Tryd.func14, Tryd.ntmps14
    go_wp2_with (at_make; refine wpList_make_full _ rfl _ _ 24 rfl w.heap.size 9 i0 (.string ⟨#[]⟩) 1 Tryd.underlying24 hi hz0 hz1 .i64 .i64 _ _ n rfl rfl rfl rfl ?c1 ?c2 ?c3 ?_)
    case c1 => rw [hz2]; omega
    case c2 => unfold maxLen; omega
    case c3 => exact Nat.le_refl _
    intro w1 hown hgrow
    have hsz := made_size hown
    have hcs := made_scells hown
    have hbel := Below.of_grown hgrow
    clear hown hgrow hi hz0 hz1 hz2
    go_wp2
    go_loopw [4] (fun i wr => ∃ k : Nat, k ≤ n ∧ i = .int .i64 k ∧ SCells wr w.heap.size n (fun j => if j < k then sAt ss j else ⟨#[]⟩) ∧ Below w.heap.size w wr ∧ w.heap.size < wr.heap.size) (fun i _ => n - (intOf i).toNat)
    case atStart => exact ⟨0, Nat.zero_le _, rfl, by simpa using hcs, hbel, hsz⟩
    case round =>
      obtain ⟨k, hk, rfl, hf, hbel, hsz⟩ := hrel
      by_cases hlt : k < n
      · have c1 : wr.cell? ⟨g, off + k, none⟩ = some (.string (sAt ss k)) := (hbel.cell (World.block_lt_of_cell? w _ (hc k hlt))).trans (hc k hlt)
        have c2 := (hf k hlt).1
        have c3 := (hf k hlt).2
        have hf' := hf.set k hlt (sAt ss k) (fun j => if j < k + 1 then sAt ss j else ⟨#[]⟩) (fun i _ => step_s k i (sAt ss) (fun _ => ⟨#[]⟩))
        have hb' := hbel.setCell (p := ⟨w.heap.size, k, none⟩) (Nat.le_refl _) (.string (sAt ss k))
        have hs' : w.heap.size < (wr.setCell ⟨w.heap.size, k, none⟩ (.string (sAt ss k))).heap.size := by simpa [World.setCell] using hsz
        have HF := hf'
        clear hf hc hf'
        go_wp2
        go_roundw
        case rel => exact ⟨k + 1, by omega, by go_num, HF, hb', hs'⟩
        case measure => simp [intOf]; omega
      · have hfin : SHead wr w.heap.size n ss := ⟨HX.out, fun i hi => by have h1 := (hf i hi).1; rw [show (fun j => if j < k then sAt ss j else (⟨#[]⟩ : ByteArray)) i = sAt ss i from if_pos (by omega)] at h1; exact h1⟩
        clear hf hc
        go_wp2
        go_ret
        exact ⟨rfl, hfin, hbel, hsz⟩

set_option maxHeartbeats 1000000 in
theorem eqStringS_same (g g' n ca cb : Nat) (ss : List ByteArray) (w : World) (ha : SHead w g n ss) (hb : SHead w g' n ss) (hn : n ≤ 2097152) :
    Calls Tryd.prog 19 #[.slice (some ⟨g, 0, none⟩) n ca, .slice (some ⟨g', 0, none⟩) n cb] w fun e w' => e = .returned (.bool true) ∧ ∃ d, w' = w.drewN d := by
  have hne : ((n : Int) != (n : Int)) = false := by simp
  have HA := Lib.hid ha
  have HB := Lib.hid hb
  clear ha hb
  go_enter Tryd.func19, Tryd.ntmps19
  go_wp2
  go_loopw [5] (fun i wr => ∃ k : Nat, k ≤ n ∧ i = .int .i64 k ∧ ∃ d, wr = w.drewN d) (fun i _ => n - (intOf i).toNat)
  case atStart => exact ⟨0, Nat.zero_le _, rfl, 0, rfl⟩
  case round =>
    obtain ⟨k, hk, rfl, d, rfl⟩ := hrel
    by_cases hlt : k < n
    · have c1 := HA.out.2 k hlt
      have c2 := HB.out.2 k hlt
      have hlt' : (k : Int) < (n : Int) := by omega
      have h0' : (0 : Int) ≤ (k : Int) := by omega
      generalize sAt ss k = sk at *
      have hx2 : (sk.toList != sk.toList) = false := by simp
      go_wp2
      go_quiet (fail)
      go_wp2
      go_roundw
      case rel => exact ⟨k + 1, by omega, by go_num, _, rfl⟩
      case measure => simp [intOf]; omega
    · go_wp2
      go_ret
      exact ⟨rfl, _, rfl⟩
end Go.Proofs.YtkkammbfomiofadDoor
