/-
  Valid inodes, the specification's and the program's.
-/
import Derived.Test.YtkkammbfomiofaaDoorIno
import Derived.Deep.QuietTactic
import Derived.BigQuiet
namespace Go.Proofs.YtkkammbfomiofaaDoor
open Go.RowKit
set_option linter.unusedSimpArgs false
set_option linter.unusedVariables false

def lidB (x : Int) : Bool := decide (1 ≤ x) && decide (x ≤ 65535)
def lidsB (xs : List Int) : Bool := xs.all lidB
def inoB (nm : ByteArray) (z : Int) (xs : List Int) : Bool := nameB nm && ((decide (0 ≤ z) && decide (z ≤ 1408)) && (decide ((xs.length : Int) = nblk z) && lidsB xs))
theorem lidsB_succ (xs : List Int) (k : Nat) (h : k < xs.length) : lidsB (xs.take (k + 1)) = (lidsB (xs.take k) && lidB (xs[k]?.getD 0)) := by
  rw [List.take_succ_eq_append_getElem h]
  simp only [lidsB, List.all_append, List.all_cons, List.all_nil, Bool.and_true, List.getElem?_eq_getElem h, Option.getD_some]
theorem lidsB_no (xs : List Int) (k : Nat) (h : k < xs.length) (hn : lidB (xs[k]?.getD 0) = false) : lidsB xs = false := by
  have e := lidsB_succ xs k h
  rw [hn, Bool.and_false] at e
  rw [← List.take_append_drop (k + 1) xs]
  simp only [lidsB, List.all_append, Bool.and_eq_false_iff] at e ⊢
  exact .inl e

theorem box_facts {w : World} {o : Obj} (d : Nat) : Below w.heap.size w ((w.alloc o).drewN d) ∧ ((w.alloc o).drewN d).heap[w.heap.size]? = some o :=
  ⟨below_drewN ((Below.refl _ _).alloc (Nat.le_refl _) _) d, heap_alloc_new w o⟩

set_option maxHeartbeats 4000000 in
theorem validInode_spec (nm : ByteArray) (z : Int) (a : Option Addr) (n ca : Nat) (xs : List Int) (w : World) (ha : IRow .i64 w a n xs) (hs : nm.size ≤ 1048576) (hn : n ≤ 2097152) :
    Calls Tryd.prog 20 #[.agg #[.string nm, .int .i64 z, .slice a n ca]] w fun e w' => e = .returned (.bool (inoB nm z xs)) ∧ Below w.heap.size w w' := by
  cases h : nameB nm
  case false =>
    have HF : Hid (inoB nm z xs = false) := by show _ = _; simp [inoB, h]
    clear ha
    go_enter Tryd.func20, Tryd.ntmps20
    go_wp2
    go_quiet ((go_at_call 45; exact Calls.quiet_of_same (validName_spec nm _ hs)))
    go_wp2
    go_ret
    exact ⟨ret_boolB HF.out.symm, (box_facts _).1⟩
  by_cases h1 : z < 0
  · have HF : Hid (inoB nm z xs = false) := by show _ = _; simp [inoB]; omega
    have h1' : decide (z < 0) = true := by simpa using h1
    clear ha
    go_enter Tryd.func20, Tryd.ntmps20
    go_wp2
    go_quiet ((go_at_call 45; exact Calls.quiet_of_same (validName_spec nm _ hs)))
    go_wp2
    go_ret
    exact ⟨ret_boolB HF.out.symm, (box_facts _).1⟩
  have h1' : decide (z < 0) = false := by simpa using h1
  by_cases h2 : 1408 < z
  · have HF : Hid (inoB nm z xs = false) := by show _ = _; simp [inoB]; omega
    have h2' : decide (1408 < z) = true := by simpa using h2
    clear ha
    go_enter Tryd.func20, Tryd.ntmps20
    go_wp2
    go_quiet ((go_at_call 45; exact Calls.quiet_of_same (validName_spec nm _ hs)))
    go_wp2
    go_ret
    exact ⟨ret_boolB HF.out.symm, (box_facts _).1⟩
  have h2' : decide (1408 < z) = false := by simpa using h2
  have z0 : 0 ≤ z := by omega
  have z1 : z ≤ 1408 := by omega
  have hx := ha.1
  by_cases h3 : (n : Int) = nblk z
  case neg =>
    have HF : Hid (inoB nm z xs = false) := by show _ = _; simp only [inoB, hx]; simp [h3]
    have h3' : ((n : Int) != nblk z) = true := by simpa using h3
    clear ha hx h3
    go_enter Tryd.func20, Tryd.ntmps20
    go_wp2
    go_quiet ((first | (go_at_call 45; exact Calls.quiet_of_same (validName_spec nm _ hs)) | (go_at_call 41; exact Calls.quiet_of_same (l2Blocks_any z _ z0 z1))))
    go_wp2
    go_ret
    exact ⟨ret_boolB HF.out.symm, (box_facts _).1⟩
  have h3' : ((n : Int) != nblk z) = false := by simpa using h3
  have HI : Hid (inoB nm z xs = lidsB xs) := by show _ = _; simp only [inoB, hx, h]; simp [h3, z0, z1]
  have HX : Hid (xs.length = n) := hx
  obtain ⟨_, ha⟩ := ha
  clear hx h3
  rcases ha with h0 | ⟨g, off, rfl, hc⟩
  · subst h0
    have HF : Hid (inoB nm z xs = true) := by show _ = _; rw [HI.out, List.length_eq_zero_iff.1 HX.out]; rfl
    go_enter Tryd.func20, Tryd.ntmps20
    go_wp2
    go_quiet ((first | (go_at_call 45; exact Calls.quiet_of_same (validName_spec nm _ hs)) | (go_at_call 41; exact Calls.quiet_of_same (l2Blocks_any z _ z0 z1))))
    go_wp2
    refine wp_loop_rounds 1 ?_
    rw [rounds_succ]
    go_wp2
    go_ret
    exact ⟨ret_boolB HF.out.symm, (box_facts _).1⟩
  · go_enter Tryd.func20, Tryd.ntmps20
    go_wp2
    go_quiet ((first | (go_at_call 45; exact Calls.quiet_of_same (validName_spec nm _ hs)) | (go_at_call 41; exact Calls.quiet_of_same (l2Blocks_any z _ z0 z1))))
    go_wp2
    go_loopw [3] (fun i wr => ∃ k : Nat, k ≤ n ∧ i = .int .i64 k ∧ lidsB (xs.take k) = true ∧ Below w.heap.size w wr ∧ wr.heap[w.heap.size]? = some (.cells #[.string nm, .int .i64 z, .slice (some ⟨g, off, none⟩) n ca] 25 (0, 0))) (fun i _ => n - (intOf i).toNat)
    case atStart => exact ⟨0, Nat.zero_le _, rfl, rfl, (box_facts _).1, (box_facts _).2⟩
    case round =>
      obtain ⟨k, hk, rfl, hall, hbel, hbk⟩ := hrel
      have HA : Hid (lidsB (xs.take k) = true) := hall
      have HBK : Hid (wr.heap[w.heap.size]? = some (.cells #[.string nm, .int .i64 z, .slice (some ⟨g, off, none⟩) n ca] 25 (0, 0))) := hbk
      obtain ⟨⟨p1, p2, p3⟩, _, _, _⟩ := three_cellsI hbk
      clear hall hbk
      by_cases hlt : k < n
      · have hkl : k < xs.length := by rw [HX.out]; exact hlt
        have c1 := hc k hlt
        rw [← hbel.cell (World.block_lt_of_cell? w _ c1)] at c1
        have HN := lidsB_no xs k hkl
        have HS := lidsB_succ xs k hkl
        have HN' : Hid (lidB (xs[k]?.getD 0) = false → lidsB xs = false) := HN
        have HS' : Hid (lidsB (xs.take (k + 1)) = (lidsB (xs.take k) && lidB (xs[k]?.getD 0))) := HS
        clear HN HS hkl hc
        generalize xs[k]?.getD 0 = x at *
        by_cases y1 : x < 1
        · have HF : Hid (inoB nm z xs = false) := by show _ = _; rw [HI.out]; exact HN'.out (by simp [lidB]; omega)
          go_wp2
          go_ret
          exact ⟨ret_boolB HF.out.symm, hbel⟩
        by_cases y2 : 65535 < x
        · have HF : Hid (inoB nm z xs = false) := by show _ = _; rw [HI.out]; exact HN'.out (by simp [lidB]; omega)
          go_wp2
          go_ret
          exact ⟨ret_boolB HF.out.symm, hbel⟩
        · have HF : Hid (lidsB (xs.take (k + 1)) = true) := by show _ = _; rw [HS'.out, HA.out]; simp [lidB]; omega
          go_wp2
          go_roundw
          case rel => exact ⟨k + 1, by omega, by go_num, HF.out, hbel, HBK.out⟩
          case measure => simp [intOf]; omega
      · have hkn : k = n := by omega
        subst hkn
        have HF : Hid (inoB nm z xs = true) := by
          show _ = _
          have := HA.out
          rw [List.take_of_length_le (by rw [HX.out]; exact Nat.le_refl _)] at this
          rw [HI.out]; exact this
        clear hc
        go_wp2
        go_ret
        exact ⟨ret_boolB HF.out.symm, hbel⟩
end Go.Proofs.YtkkammbfomiofaaDoor
