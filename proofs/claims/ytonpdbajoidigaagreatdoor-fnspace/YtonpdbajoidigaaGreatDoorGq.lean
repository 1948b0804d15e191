/-
  Srb, Src, Srd, Sre.
-/
import Derived.Test.YtonpdbajoidigaaGreatDoorGp
import Derived.Test.YtonpdbajoidigaaGreatDoorGb
import Derived.Laws.Externs
import Derived.Laws.LoneSync
import Derived.Lib.Hide
import Derived.MapKept
import Derived.BigRegion
/-
  FnSpace: a table of noughts, mounted.
-/
namespace Go.Proofs.YtonpdbajoidigaaGreatDoor
open Go.RowKit
set_option linter.unusedSimpArgs false
set_option linter.unusedVariables false

set_option maxHeartbeats 1000000 in
set_option maxRecDepth 100000 in
theorem goodAddr_zero (a : Option Addr) (n c : Nat) (es : List (Int × Bool)) (S b : Int) (w : World) (ha : ERead w a n es) (hn : n ≤ 4096) (hz : ∀ i, i < n → eA es i = 0) :
    Calls Tryz.prog 65 #[.slice a n c, .agg #[.int .i64 S, .int .i64 b]] w fun e w' => e = .returned (.bool true) ∧ Below w.heap.size w w' := by
  have HA := Lib.hid (And.intro ha hz)
  clear ha hz
  have HB0 : Hid (∀ o o', Below w.heap.size w ((w.alloc o).alloc o')) := fun o o' => ((Below.refl _ _).alloc (Nat.le_refl _) _).alloc (by simp) _
  have hmm : ∀ W : World, (Instr.makeMap 209 none).run Tryz.prog W = .ok (.map (some W.heap.size)) (W.alloc (.map #[] 0)) := fun W => run_makeMap _ W
  go_enter Tryz.func65, Tryz.ntmps65
  go_wp2
  go_loopw [15] (fun i wr => ∃ k : Nat, k ≤ n ∧ i = .int .i64 k ∧ Hid (Below w.heap.size w wr)) (fun i _ => n - (intOf i).toNat)
  case atStart => exact ⟨0, Nat.zero_le _, rfl, HB0.out _ _⟩
  case round =>
    obtain ⟨k, hk, rfl, HB⟩ := hrel
    by_cases hlt : k < n
    · have hlt' : (k : Int) < (n : Int) := by omega
      have h0' : (0 : Int) ≤ (k : Int) := by omega
      rcases HA.out.1.2 with h | ⟨g, off, rfl, hc⟩
      · omega
      obtain ⟨q1, q2⟩ := hc k hlt
      have c1 := (HB.out.cell (World.block_lt_of_cell? w _ q1)).trans q1
      have c2 := (HB.out.cell (World.block_lt_of_cell? w _ q2)).trans q2
      have hgl : g < wr.heap.size := World.block_lt_of_cell? wr _ c1
      rw [HA.out.2 k hlt] at c1
      have hB2 : ∀ o, Below w.heap.size w (wr.alloc o) := fun o => HB.out.alloc HB.out.size o
      have HB2 := Lib.hid hB2
      clear hc q1 q2 hB2
      generalize eI es k = y at *
      go_wp2
      go_roundw
      case rel => exact ⟨k + 1, by omega, by go_num, HB2.out _⟩
      case measure => simp [intOf]; omega
    · obtain rfl : k = n := by omega
      clear HA
      go_wp2
      go_ret
      exact ⟨rfl, HB.out⟩
set_option maxHeartbeats 1000000 in
set_option maxRecDepth 100000 in
theorem marked_none (a : Option Addr) (n c : Nat) (es : List (Int × Bool)) (w : World) (ha : ERead w a n es) (hn : n ≤ 4096) (hz : ∀ i, i < n → eI es i = false) :
    Calls Tryz.prog 66 #[.slice a n c] w fun e w' => (∃ a' c', e = .returned (.slice a' 0 c')) ∧ Below w.heap.size w w' := by
  have HA := Lib.hid (And.intro ha hz)
  clear ha hz
  have HB0 : Hid (∀ o, Below w.heap.size w (w.alloc o)) := fun o => (Below.refl _ _).alloc (Nat.le_refl _) _
  go_enter Tryz.func66, Tryz.ntmps66
  go_wp2
  go_loopw [3, 9] (fun l i wr => ∃ k : Nat, k ≤ n ∧ (∃ a' c', l = .slice a' 0 c') ∧ i = .int .i64 k ∧ Hid (Below w.heap.size w wr)) (fun _ i _ => n - (intOf i).toNat)
  case atStart => exact ⟨0, Nat.zero_le _, ⟨_, _, rfl⟩, rfl, HB0.out _⟩
  case round =>
    obtain ⟨k, hk, ⟨a', c', rfl⟩, rfl, HB⟩ := hrel
    by_cases hlt : k < n
    · have hlt' : (k : Int) < (n : Int) := by omega
      have h0' : (0 : Int) ≤ (k : Int) := by omega
      rcases HA.out.1.2 with h | ⟨g, off, rfl, hc⟩
      · omega
      obtain ⟨q1, q2⟩ := hc k hlt
      have c1 := (HB.out.cell (World.block_lt_of_cell? w _ q1)).trans q1
      have c2 := (HB.out.cell (World.block_lt_of_cell? w _ q2)).trans q2
      have hgl : g < wr.heap.size := World.block_lt_of_cell? wr _ c1
      rw [HA.out.2 k hlt] at c2
      have hB2 : ∀ o, Below w.heap.size w (wr.alloc o) := fun o => HB.out.alloc HB.out.size o
      have HB2 := Lib.hid hB2
      clear hc q1 q2 hB2
      generalize eA es k = x at *
      go_wp2
      go_roundw
      case rel => exact ⟨k + 1, by omega, ⟨_, _, rfl⟩, by go_num, HB2.out _⟩
      case measure => simp [intOf]; omega
    · obtain rfl : k = n := by omega
      clear HA
      go_wp2
      go_ret
      exact ⟨⟨_, _, rfl⟩, HB.out⟩
set_option maxHeartbeats 1000000 in
set_option maxRecDepth 100000 in
theorem nameTwice_none (a : Option Addr) (c : Nat) (w : World) :
    Calls Tryz.prog 72 #[.slice a 0 c] w fun e w' => e = .returned (.bool false) ∧ Below w.heap.size w w' := by
  have HB0 : Hid (∀ o, Below w.heap.size w (w.alloc o)) := fun o => (Below.refl _ _).alloc (Nat.le_refl _) _
  have hmm : ∀ W : World, (Instr.makeMap 229 none).run Tryz.prog W = .ok (.map (some W.heap.size)) (W.alloc (.map #[] 0)) := fun W => run_makeMap _ W
  go_enter Tryz.func72, Tryz.ntmps72
  go_wp2
  go_loopw [11] (fun i wr => i = .int .i64 0 ∧ Hid (Below w.heap.size w wr)) (fun i _ => 0)
  case atStart => exact ⟨rfl, HB0.out _⟩
  case round =>
    obtain ⟨rfl, HB⟩ := hrel
    go_wp2
    go_ret
    exact ⟨rfl, HB.out⟩
end Go.Proofs.YtonpdbajoidigaaGreatDoor

/-
  FnSpace: waiting for nobody; sorting nothing.
-/
namespace Go.Proofs.YtonpdbajoidigaaGreatDoor
open Go.RowKit
set_option linter.unusedSimpArgs false
set_option linter.unusedVariables false

theorem race_dis (w : World) : (callFunc 111 #[]).run Tryz.prog w = .ok (.value (.tuple #[])) w := by
  rw [run_callFunc_extern Tryz.func111 (by kernel_rfl) (by kernel_rfl) (by kernel_rfl) (e := fun _ => do mark .disable; pure Extern.Race.none_) (by kernel_rfl)]
  rfl
theorem race_en (w : World) : (callFunc 112 #[]).run Tryz.prog w = .ok (.value (.tuple #[])) w := by
  rw [run_callFunc_extern Tryz.func112 (by kernel_rfl) (by kernel_rfl) (by kernel_rfl) (e := fun _ => do mark .enable; pure Extern.Race.none_) (by kernel_rfl)]
  rfl
theorem race_acq (a : Addr) (w : World) : (callFunc 125 #[.pointer (some a)]).run Tryz.prog w = .ok (.value (.tuple #[])) w := by
  rw [run_callFunc_extern Tryz.func125 (by kernel_rfl) (by kernel_rfl) (by kernel_rfl) (e := Extern.Race.marked .acquire) (by kernel_rfl)]
  rfl
theorem atom_load (a : Addr) (x : Int) (w : World) (h : w.cell? a = some (.int .u64 x)) : (callFunc 164 #[.pointer (some a)]).run Tryz.prog w = .ok (.value (.int .u64 x)) w := by
  rw [run_callFunc_extern Tryz.func164 (by kernel_rfl) (by kernel_rfl) (by kernel_rfl) (e := Extern.Atomic.loadT (.int .u64)) (by kernel_rfl)]
  have e : Extern.Atomic.loadT (.int .u64) #[.pointer (some a)] = Extern.Atomic.read (.int .u64) a := rfl
  rw [e]
  simp [Extern.Atomic.read, go_sem, h, Result.andThen]
set_option maxHeartbeats 1000000 in
set_option maxRecDepth 100000 in
theorem u64_load (g : Nat) (x : Int) (w : World) (h : w.cell? ⟨g, 0, none⟩ = some (.int .u64 x)) :
    Calls Tryz.prog 119 #[.pointer (some ⟨g, 0, none⟩)] w fun e w' => e = .returned (.int .u64 x) ∧ w' = w := by
  have hl := atom_load ⟨g, 0, none⟩ x w h
  go_enter Tryz.func119, Tryz.ntmps119
  go_wp2
  go_ret
  exact ⟨rfl, rfl⟩
set_option maxHeartbeats 1000000 in
set_option maxRecDepth 100000 in
theorem wait_zero (g : Nat) (w : World) (h : w.cell? ⟨g, 0, none⟩ = some (.int .u64 0)) :
    Calls Tryz.prog 71 #[.pointer (some ⟨g, 0, none⟩)] w fun e w' => (∃ v, e = .returned v) ∧ w' = w := by
  have HL := Lib.hid (u64_load g 0 w h)
  have hcv := run_convert_to_unsafe (P := Tryz.prog) (src := 210) (dst := 212) (w := w) Tryz.underlying210 Tryz.underlying212 (by kernel_rfl) h
  have hb1 : bits BinOp.and IntKind.u64 0 2147483647 = 0 := by kernel_rfl
  have hb2 : bits BinOp.and IntKind.u64 0 2147483648 = 0 := by kernel_rfl
  have hd := race_dis
  have he := race_en
  have ha := race_acq
  clear h
  go_enter Tryz.func71, Tryz.ntmps71
  go_wp2
  go_loopw [] (fun wr => wr = w) (fun _ => 0)
  case atStart => rfl
  case round =>
    obtain rfl := hrel
    go_wp2_with fail
    refine HL.out.mono ?_
    rintro e w' ⟨rfl, rfl⟩
    go_wp2
    refine bodyPost_ret (results_none rfl _ _ _) rfl ?_
    exact ⟨⟨_, rfl⟩, rfl⟩
set_option maxHeartbeats 1000000 in
set_option maxRecDepth 100000 in
theorem len64_zero (w : World) : Calls Tryz.prog 140 #[.int .u64 0] w fun e w' => e = .returned (.int .i64 0) ∧ w' = w := by
  go_enter Tryz.func140, Tryz.ntmps140
  go_wp2
  go_ret
  exact ⟨by kernel_rfl, rfl⟩
set_option maxHeartbeats 1000000 in
set_option maxRecDepth 100000 in
theorem len_zero (w : World) : Calls Tryz.prog 76 #[.int .u64 0] w fun e w' => e = .returned (.int .i64 0) ∧ w' = w := by
  go_enter Tryz.func76, Tryz.ntmps76
  go_wp2_with fail
  refine (len64_zero w).mono ?_
  rintro e w' ⟨rfl, rfl⟩
  go_wp2
  go_ret
  exact ⟨rfl, rfl⟩
set_option maxHeartbeats 1000000 in
set_option maxRecDepth 100000 in
theorem insSort_zero (a : Option Addr) (c : Nat) (v : Value) (w : World) : Calls Tryz.prog 131 #[.slice a 0 c, .int .i64 0, .int .i64 0, v] w fun e w' => (∃ v, e = .returned v) ∧ w' = w := by
  go_enter Tryz.func131, Tryz.ntmps131
  go_wp2
  go_loopw [8] (fun i wr => i = .int .i64 1 ∧ wr = w) (fun i _ => 0)
  case atStart => exact ⟨rfl, rfl⟩
  case round =>
    obtain ⟨rfl, rfl⟩ := hrel
    go_wp2
    go_end0
    exact ⟨⟨_, rfl⟩, rfl⟩
set_option maxHeartbeats 1000000 in
set_option maxRecDepth 100000 in
theorem pdq_zero (a : Option Addr) (c : Nat) (l : Int) (v : Value) (w : World) : Calls Tryz.prog 75 #[.slice a 0 c, .int .i64 0, .int .i64 0, .int .i64 l, v] w fun e w' => (∃ v, e = .returned v) ∧ w' = w := by
  have HI := Lib.hid (insSort_zero a c v w)
  go_enter Tryz.func75, Tryz.ntmps75
  go_wp2
  go_loopw [1, 2] (fun i j wr => i = .int .i64 0 ∧ j = .int .i64 0 ∧ wr = w) (fun _ _ _ => 0)
  case atStart => exact ⟨rfl, rfl, rfl⟩
  case round =>
    obtain ⟨rfl, rfl, rfl⟩ := hrel
    go_wp2_with fail
    refine HI.out.mono ?_
    rintro e w' ⟨⟨_, rfl⟩, rfl⟩
    go_wp2
    refine bodyPost_ret (results_none rfl _ _ _) rfl ?_
    exact ⟨⟨_, rfl⟩, rfl⟩
set_option maxHeartbeats 1000000 in
set_option maxRecDepth 100000 in
theorem sortF_zero (a : Option Addr) (c : Nat) (v : Value) (w : World) : Calls Tryz.prog 44 #[.slice a 0 c, v] w fun e w' => (∃ v, e = .returned v) ∧ w' = w := by
  go_enter Tryz.func44, Tryz.ntmps44
  go_wp2_with fail
  refine (len_zero w).mono ?_
  rintro e w' ⟨rfl, rfl⟩
  go_wp2_with fail
  refine (pdq_zero a c 0 v w').mono ?_
  rintro e w' ⟨⟨_, rfl⟩, rfl⟩
  go_wp2
  go_end0
  exact ⟨⟨_, rfl⟩, rfl⟩
end Go.Proofs.YtonpdbajoidigaaGreatDoor

/-
  FnSpace: no inode to be read.
-/
namespace Go.Proofs.YtonpdbajoidigaaGreatDoor
open Go.RowKit
set_option linter.unusedSimpArgs false
set_option linter.unusedVariables false

theorem one_set {W : World} {g : Nat} {a0 : Value} {t : TypeId} (h : W.heap[g]? = some (.cells #[a0] t (0, 0))) (b0 : Value) : (W.setCell ⟨g, 0, none⟩ b0).heap[g]? = some (.cells #[b0] t (0, 0)) := by
  simp [World.setCell, Array.getElem?_modify, h]
set_option maxHeartbeats 2000000 in
set_option maxRecDepth 100000 in
theorem readInodes_none (C : Nat) (a : Option Addr) (n c : Nat) (es : List (Int × Bool)) (w : World) (ha : ERead w a n es) (hn : n ≤ 4096) (hz : ∀ i, i < n → eI es i = false) :
    Calls Tryz.prog 40 #[.pointer (some ⟨C, 0, none⟩), .slice a n c] w fun e w' => (∃ a' c', e = .returned (.tuple #[.slice a' 0 c', .bool true])) ∧ Below w.heap.size w w' := by
  obtain ⟨W1, hW1⟩ : ∃ W1, w.alloc (.cells #[.pointer (some ⟨C, 0, none⟩)] 44) = W1 := ⟨_, rfl⟩
  obtain ⟨W2, hW2⟩ : ∃ W2, W1.alloc (.cells #[.slice a n c] 45) = W2 := ⟨_, rfl⟩
  have hb1 : Below w.heap.size w W1 := by rw [← hW1]; exact (Below.refl _ _).alloc (Nat.le_refl _) _
  have hb2 : Below w.heap.size w W2 := by rw [← hW2]; exact hb1.alloc hb1.size _
  have k2 : W2.heap[W1.heap.size]? = some (.cells #[.slice a n c] 45 (0, 0)) := by rw [← hW2]; exact heap_alloc_new W1 _
  have x2 := cell_oneB k2
  have HM : Hid (Calls Tryz.prog 66 #[.slice a n c] W2 fun e w' => (∃ a' c', e = .returned (.slice a' 0 c')) ∧ Below W2.heap.size W2 w') := marked_none a n c es W2 (ha.below hb2) hn hz
  have HB := Lib.hid hb2
  clear ha hz hb1 hb2 k2
  go_enter Tryz.func40, Tryz.ntmps40
  go_wp2_with fail
  refine HM.out.mono ?_
  rintro e w3 ⟨⟨a', c', rfl⟩, hb3⟩
  have hmk : ∀ W : World, (Instr.makeSlice 145 (.int .i64 0) (.int .i64 0)).run Tryz.prog W = .ok (.slice (some ⟨W.heap.size, 0, none⟩) 0 0) (W.alloc (.cells #[] 157)) := fun W => by kernel_rfl
  have hb3' : Below w.heap.size w w3 := HB.out.trans (hb3.mono HB.out.size)
  obtain ⟨W4, hW4⟩ : ∃ W4, w3.alloc (.cells #[] 157) = W4 := ⟨_, rfl⟩
  have hb4 : Below w.heap.size w W4 := by rw [← hW4]; exact hb3'.alloc hb3'.size _
  obtain ⟨W5, hW5⟩ : ∃ W5, (W4.alloc (.cells #[.slice none 0 0] 145)).setCell ⟨W4.heap.size, 0, none⟩ (.slice (some ⟨w3.heap.size, 0, none⟩) 0 0) = W5 := ⟨_, rfl⟩
  have k5 : W5.heap[W4.heap.size]? = some (.cells #[.slice (some ⟨w3.heap.size, 0, none⟩) 0 0] 145 (0, 0)) := by
    rw [← hW5]
    exact one_set (heap_alloc_new W4 _) _
  have hb5 : Below w.heap.size w W5 := by rw [← hW5]; exact (hb4.alloc hb4.size _).setCell (p := ⟨W4.heap.size, 0, none⟩) hb4.size _
  obtain ⟨W6, hW6⟩ : ∃ W6, W5.alloc (.cells #[.int .u64 0, .int .u32 0] 154) = W6 := ⟨_, rfl⟩
  have hb6 : Below w.heap.size w W6 := by rw [← hW6]; exact hb5.alloc hb5.size _
  have k6 : W6.heap[W5.heap.size]? = some (.cells #[.int .u64 0, .int .u32 0] 154 (0, 0)) := by rw [← hW6]; exact heap_alloc_new W5 _
  have x6 : W6.cell? ⟨W4.heap.size, 0, none⟩ = some (.slice (some ⟨w3.heap.size, 0, none⟩) 0 0) := by
    refine cell_oneB (t := 145) (f := (0, 0)) ?_
    rw [← hW6]
    exact (((Below.refl W5.heap.size W5).alloc (Nat.le_refl _) _).block _ (Array.getElem?_eq_some_iff.1 k5).1).trans k5
  have HW : Hid (Calls Tryz.prog 71 #[.pointer (some ⟨W5.heap.size, 0, none⟩)] W6 fun e w' => (∃ v, e = .returned v) ∧ w' = W6) := wait_zero W5.heap.size W6 (by rw [cell_of_row _ _ 0 _ _ _ k6]; rfl)
  have l4 : W4.heap.size < W5.heap.size := (Array.getElem?_eq_some_iff.1 k5).1
  have l6 : W4.heap.size < W6.heap.size := World.block_lt_of_cell? W6 _ x6
  have HB6 : Hid (∀ o, Below w.heap.size w (W6.alloc o)) := fun o => hb6.alloc hb6.size o
  clear hb3 hb3' hb4 hb5 hb6 k5 k6 HM HB
  go_wp2
  go_loopw [21] (fun i wr => i = .int .i64 0 ∧ wr = W6) (fun i _ => 0)
  case atStart => exact ⟨rfl, rfl⟩
  case round =>
    obtain ⟨rfl, rfl⟩ := hrel
    go_wp2_with fail
    refine HW.out.mono ?_
    rintro e w7 ⟨⟨_, rfl⟩, rfl⟩
    go_wp2
    go_loopw [33, 11] (fun i l wr => i = .int .i64 0 ∧ (∃ a' c', l = .slice a' 0 c') ∧ ∃ o, wr = w7.alloc o) (fun i _ _ => 0)
    case atStart => exact ⟨rfl, ⟨_, _, rfl⟩, _, rfl⟩
    case round =>
      obtain ⟨rfl, ⟨a2, c2, rfl⟩, o, rfl⟩ := hrel
      go_wp2
      refine bodyPost_ret (results_tmp2 rfl _ _ _) rfl ?_
      exact ⟨⟨_, _, rfl⟩, HB6.out _⟩
theorem look_own {w : World} {r : Nat} (h1 : w.heap[r]? = some (.map #[] 0)) (x : Int) :
    (Instr.lookup 159 (.map (some r)) (.int .i64 x) true).run Tryz.prog w = .ok (.tuple #[.agg #[.int .i64 0], .bool false]) w := by
  have hz : (zeroValue 161).run Tryz.prog w = .ok (.agg #[.int .i64 0]) w := by simp [go_sem]
  have hc : ∀ e, (Instr.checkKey e 10000 2 (.int .i64 x)).run Tryz.prog w = .ok () w := fun e => MapKept.run_checkKey (k := .int .i64 x) Tryz.underlying2 (by simp [MapKept.IsKey]) e 9999
  have hf : Instr.findNow (.int .i64) (.int .i64 x) (#[] : Array MapEntry).toList 0 = some none := rfl
  simp [Instr.lookup, run_underlying Tryz.underlying159, MapKept.run_getObj_map h1, hc, MapKept.run_findKey Tryz.underlying2 hf, hz, Result.andThen]
set_option maxHeartbeats 2000000 in
set_option maxRecDepth 100000 in
theorem goodBlocks_zero (a : Option Addr) (n c : Nat) (es : List (Int × Bool)) (f : Option Addr) (fc : Nat) (w : World) (ha : ERead w a n es) (hn : n ≤ 4096) (hz : ∀ i, i < n → eA es i = 0) :
    Calls Tryz.prog 41 #[.slice a n c, .slice f 0 fc] w fun e w' => e = .returned (.bool true) ∧ Below w.heap.size w w' := by
  have HA := Lib.hid (And.intro ha hz)
  clear ha hz
  obtain ⟨W1, hW1⟩ : ∃ W1, w.alloc (.map #[] 0) = W1 := ⟨_, rfl⟩
  have hb1 : Below w.heap.size w W1 := by rw [← hW1]; exact (Below.refl _ _).alloc (Nat.le_refl _) _
  have k1 : W1.heap[w.heap.size]? = some (.map #[] 0) := by rw [← hW1]; exact heap_alloc_new w _
  have l1 : w.heap.size < W1.heap.size := (Array.getElem?_eq_some_iff.1 k1).1
  have HB1 := Lib.hid (And.intro hb1 k1)
  have hmm : ∀ W : World, (Instr.makeMap 159 none).run Tryz.prog W = .ok (.map (some W.heap.size)) (W.alloc (.map #[] 0)) := fun W => run_makeMap _ W
  have HN := Lib.hid (fun V => nameTwice_none f fc V)
  clear hb1 k1
  go_enter Tryz.func41, Tryz.ntmps41
  go_wp2
  go_loopw [19] (fun i wr => i = .int .i64 0 ∧ wr = W1) (fun i _ => 0)
  case atStart => exact ⟨rfl, rfl⟩
  case round =>
    obtain ⟨rfl, rfl⟩ := hrel
    go_wp2
    go_loopw [47] (fun i wr => ∃ k : Nat, k ≤ n ∧ i = .int .i64 k ∧ Hid (Below w.heap.size w wr ∧ wr.heap[w.heap.size]? = some (.map #[] 0))) (fun i _ => n - (intOf i).toNat)
    case atStart => exact ⟨0, Nat.zero_le _, rfl, HB1.out⟩
    case round =>
      obtain ⟨k, hk, rfl, HB⟩ := hrel
      by_cases hlt : k < n
      · have hlt' : (k : Int) < (n : Int) := by omega
        have h0' : (0 : Int) ≤ (k : Int) := by omega
        rcases HA.out.1.2 with h | ⟨g, off, rfl, hc⟩
        · omega
        obtain ⟨q1, q2⟩ := hc k hlt
        have c1 := (HB.out.1.cell (World.block_lt_of_cell? w _ q1)).trans q1
        have c2 := (HB.out.1.cell (World.block_lt_of_cell? w _ q2)).trans q2
        have hgl : g < wr.heap.size := World.block_lt_of_cell? wr _ c1
        rw [HA.out.2 k hlt] at c1
        clear hc q1 q2
        generalize eI es k = y at *
        obtain ⟨W2, hW2⟩ : ∃ W2, wr.alloc (.cells #[.int .i64 0, .bool y] 164) = W2 := ⟨_, rfl⟩
        have hb2 : Below wr.heap.size wr W2 := by rw [← hW2]; exact (Below.refl _ _).alloc (Nat.le_refl _) _
        have k2 : W2.heap[wr.heap.size]? = some (.cells #[.int .i64 0, .bool y] 164 (0, 0)) := by rw [← hW2]; exact heap_alloc_new wr _
        have l2 : wr.heap.size < W2.heap.size := (Array.getElem?_eq_some_iff.1 k2).1
        have x1 : W2.cell? ⟨wr.heap.size, 0, none⟩ = some (.int .i64 0) := by rw [cell_of_row _ _ 0 _ _ _ k2]; rfl
        have x2 : W2.cell? ⟨wr.heap.size, 1, none⟩ = some (.bool y) := by rw [cell_of_row _ _ 1 _ _ _ k2]; rfl
        have hlo : (Instr.lookup 159 (.map (some w.heap.size)) (.int .i64 ((k : Int) + 1)) true).run Tryz.prog W2 = .ok (.tuple #[.agg #[.int .i64 0], .bool false]) W2 := look_own ((hb2.block _ (Array.getElem?_eq_some_iff.1 HB.out.2).1).trans HB.out.2) _
        have HB2 : Hid (∀ o, Below w.heap.size w (W2.alloc o) ∧ (W2.alloc o).heap[w.heap.size]? = some (.map #[] 0)) := fun o => by
          have hl := (Array.getElem?_eq_some_iff.1 HB.out.2).1
          have hb3 : Below wr.heap.size wr (W2.alloc o) := hb2.alloc hb2.size o
          exact ⟨HB.out.1.trans (hb3.mono HB.out.1.size), (hb3.block _ hl).trans HB.out.2⟩
        clear hb2 k2
        go_wp2
        go_roundw
        case rel => exact ⟨k + 1, by omega, by go_num, HB2.out _⟩
        case measure => simp [intOf]; omega
      · obtain rfl : k = n := by omega
        clear HA
        go_wp2_with fail
        refine (HN.out wr).mono ?_
        rintro e w' ⟨rfl, hb⟩
        have HF : Hid (Below w.heap.size w w') := HB.out.1.trans (hb.mono HB.out.1.size)
        clear hb
        go_wp2
        go_ret
        exact ⟨rfl, HF.out⟩
end Go.Proofs.YtonpdbajoidigaaGreatDoor

/-
  FnSpace: there is room.
-/
namespace Go.Proofs.YtonpdbajoidigaaGreatDoor
open Go.RowKit
set_option linter.unusedSimpArgs false
set_option linter.unusedVariables false

set_option maxHeartbeats 1000000 in
set_option maxRecDepth 100000 in
theorem idx_zero (a : Option Addr) (S c : Nat) (cs : List Int) (w : World) (hr : IRow .i64 w a S cs) (hS : 1 ≤ S) (hS' : S ≤ 64) (h0 : cs[0]?.getD 0 = 0) :
    Calls Tryz.prog 130 #[.slice a S c, .int .i64 0] w fun e w' => e = .returned (.int .i64 0) ∧ w' = w := by
  rcases hr.2 with h | ⟨g, off, rfl, hc⟩
  · omega
  have c0 := hc 0 (by omega)
  rw [h0, Nat.add_zero] at c0
  have hSp : (0 : Int) < (S : Int) := by omega
  clear hr hc h0
  go_enter Tryz.func130, Tryz.ntmps130
  go_wp2
  go_loopw [8] (fun i wr => i = .int .i64 0 ∧ wr = w) (fun i _ => 0)
  case atStart => exact ⟨rfl, rfl⟩
  case round =>
    obtain ⟨rfl, rfl⟩ := hrel
    go_wp2
    go_ret
    exact ⟨rfl, rfl⟩
set_option maxHeartbeats 1000000 in
set_option maxRecDepth 100000 in
theorem contains_zero (a : Option Addr) (S c : Nat) (cs : List Int) (w : World) (hr : IRow .i64 w a S cs) (hS : 1 ≤ S) (hS' : S ≤ 64) (h0 : cs[0]?.getD 0 = 0) :
    Calls Tryz.prog 74 #[.slice a S c, .int .i64 0] w fun e w' => e = .returned (.bool true) ∧ w' = w := by
  have HI := Lib.hid (idx_zero a S c cs w hr hS hS' h0)
  clear hr h0
  go_enter Tryz.func74, Tryz.ntmps74
  go_wp2_with fail
  refine HI.out.mono ?_
  rintro e w' ⟨rfl, rfl⟩
  go_wp2
  go_ret
  exact ⟨rfl, rfl⟩
set_option maxHeartbeats 2000000 in
set_option maxRecDepth 100000 in
theorem hasRoom_yes (a : Option Addr) (n c : Nat) (es : List (Int × Bool)) (a' : Option Addr) (S c' : Nat) (b : Int) (cs : List Int) (w : World) (ha : ERead w a n es) (hn : n ≤ 4096) (hz : liveN es n = 0) (hr : IRow .i64 w a' S cs) (hv : vG (S : Int) b = true) (h0 : cs[0]?.getD 0 = 0) :
    Calls Tryz.prog 43 #[.slice a n c, .slice a' S c', .agg #[.int .i64 (S : Int), .int .i64 b]] w fun e w' => e = .returned (.bool true) ∧ Below w.heap.size w w' := by
  have hg := vG_yes hv
  have hcap : (0 : Int) ≤ (S : Int) * b - 2 * b := by
    have : (2 : Int) * b ≤ (S : Int) * b := Int.mul_le_mul_of_nonneg_right (by omega) (by omega)
    omega
  obtain ⟨cap, hcp⟩ : ∃ cap, (S : Int) * b - 2 * b = cap := ⟨_, rfl⟩
  have hle : decide ((0 : Int) ≤ cap) = true := by rw [← hcp]; exact decide_eq_true hcap
  have HL : Hid (∀ V, Below w.heap.size w V → Calls Tryz.prog 56 #[.slice a n c] V fun e w' => e = .returned (.int .i64 0) ∧ Below V.heap.size V w') := fun V hV => by
    have := liveLids_any a n c es V (ha.below hV) hn
    rw [hz] at this
    exact this
  have HY : Hid (∀ V, Calls Tryz.prog 13 #[.agg #[.int .i64 (S : Int), .int .i64 b]] V fun e w' => (∃ x0 x1 x2 x3, e = .returned (.agg #[.int .i64 x0, .int .i64 x1, .int .i64 x2, .int .i64 x3, .int .i64 cap])) ∧ Below V.heap.size V w') := fun V => by
    have := layout_impl (S : Int) b V
    unfold layA at this
    rw [hv, if_pos rfl, hcp] at this
    exact this.mono fun e w' ⟨h1, h2⟩ => ⟨⟨_, _, _, _, h1⟩, h2⟩
  have HC : Hid (∀ V, Below w.heap.size w V → Calls Tryz.prog 74 #[.slice a' S c', .int .i64 0] V fun e w' => e = .returned (.bool true) ∧ w' = V) := fun V hV => contains_zero a' S c' cs V (hr.below hV) (by omega) (by omega) h0
  have hfd : ∀ (y0 y1 y2 y3 : Int) (v : World), (Instr.field 57 (.agg #[.int .i64 y0, .int .i64 y1, .int .i64 y2, .int .i64 y3, .int .i64 cap]) 4).run Tryz.prog v = .ok (.int .i64 cap) v := fun _ _ _ _ _ => by kernel_rfl
  obtain ⟨W1, hW1⟩ : ∃ W1, w.alloc (.cells #[.int .i64 (S : Int), .int .i64 b] 25) = W1 := ⟨_, rfl⟩
  have hb1 : Below w.heap.size w W1 := by rw [← hW1]; exact (Below.refl _ _).alloc (Nat.le_refl _) _
  have k1 : W1.heap[w.heap.size]? = some (.cells #[.int .i64 (S : Int), .int .i64 b] 25 (0, 0)) := by rw [← hW1]; exact heap_alloc_new w _
  have l1 : w.heap.size < W1.heap.size := (Array.getElem?_eq_some_iff.1 k1).1
  obtain ⟨⟨x0, x1⟩, _⟩ := cells2g k1
  have HB1 := Lib.hid (And.intro hb1 k1)
  clear ha hz hr h0 hb1 k1 hcp hcap hv
  go_enter Tryz.func43, Tryz.ntmps43
  go_wp2_with fail
  go_region_law (first
    | (go_simp; go_at_call 56; refine (HL.out _ HB1.out.1.drew).mono ?_; rintro e w2 ⟨rfl, hb2⟩; have HB2 : Hid (Below w.heap.size w w2) := HB1.out.1.drew.trans (hb2.mono HB1.out.1.size); obtain ⟨⟨z0, z1⟩, _⟩ := cells2g ((hb2.block _ l1).trans HB1.out.2); clear hb2 x0 x1)
    | (go_simp; go_at_call 13; refine (HY.out _).mono ?_; rintro e w3 ⟨⟨y0, y1, y2, y3, rfl⟩, hb3⟩; have HB3 : Hid (Below w.heap.size w w3) := HB2.out.trans (hb3.mono HB2.out.size); clear hb3)
    | (go_simp; go_at_call 74; refine (HC.out _ HB3.out).mono ?_; rintro e w4 ⟨rfl, rfl⟩))
  all_goals
    go_wp2
    go_ret
    exact ⟨rfl, HB3.out⟩
end Go.Proofs.YtonpdbajoidigaaGreatDoor
