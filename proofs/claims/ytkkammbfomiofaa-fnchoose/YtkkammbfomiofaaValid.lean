/-
  ValidDisk, the specification's and the program's.
-/
import Derived.Test.YtkkammbfomiofaaGb
namespace Go.Proofs.Ytkkammbfomiofaa
open Go.RowKit
set_option linter.unusedSimpArgs false
set_option linter.unusedVariables false

/-- A write that a disk of nb blocks may have. -/
def OkW (nb : Int) (x : Int × List Int) : Prop := 0 ≤ x.1 ∧ x.1 < nb ∧ x.2.length = 64
/-- A valid disk of n bytes with these writes. -/
def ValidV (n : Nat) (val : List (Int × List Int)) : Prop := n % 64 = 0 ∧ 1 ≤ n / 64 ∧ n / 64 ≤ 1200 ∧ val.length ≤ 400 ∧ ∀ x ∈ val, OkW ((n / 64 : Nat) : Int) x
def validB (n : Nat) (val : List (Int × List Int)) : Bool := decide (n % 64 = 0) && (decide (1 ≤ n / 64) && (decide (n / 64 ≤ 1200) && (decide (val.length ≤ 400) && val.all fun x => decide (0 ≤ x.1) && (decide (x.1 < ((n / 64 : Nat) : Int)) && decide (x.2.length = 64)))))
theorem validB_iff (n : Nat) (val : List (Int × List Int)) : validB n val = true ↔ ValidV n val := by
  simp only [validB, ValidV, OkW, Bool.and_eq_true, decide_eq_true_eq, List.all_eq_true]
theorem validB_true {n : Nat} {val : List (Int × List Int)} (h : ValidV n val) : validB n val = true := (validB_iff n val).2 h
theorem validB_false {n : Nat} {val : List (Int × List Int)} (h : ¬ ValidV n val) : validB n val = false := by
  cases e : validB n val
  · rfl
  · exact absurd ((validB_iff n val).1 e) h

theorem wVal_len (ws : List WV) : (wVal ws).length = ws.length := by simp [wVal]
theorem wVal_at (ws : List WV) (k : Nat) (h : k < ws.length) : (wVal ws)[k]'(by rw [wVal_len]; exact h) = (wBlk ws k, wBs ws k) := by
  simp [wVal, wBlk, wBs, List.getElem?_eq_getElem h]
theorem okW_succ {nb : Int} {ws : List WV} {k : Nat} (h : k < ws.length) (hp : ∀ x ∈ (wVal ws).take k, OkW nb x) (h1 : 0 ≤ wBlk ws k) (h2 : wBlk ws k < nb) (h3 : (wBs ws k).length = 64) : ∀ x ∈ (wVal ws).take (k + 1), OkW nb x := by
  rw [List.take_succ_eq_append_getElem (by rw [wVal_len]; exact h)]
  intro x hx
  rw [List.mem_append] at hx
  rcases hx with hx | hx
  · exact hp x hx
  · rw [List.mem_singleton, wVal_at ws k h] at hx; subst hx; exact ⟨h1, h2, h3⟩
theorem notValid_at {n : Nat} {ws : List WV} {k : Nat} (h : k < ws.length) (hn : ¬ (0 ≤ wBlk ws k ∧ wBlk ws k < ((n / 64 : Nat) : Int) ∧ (wBs ws k).length = 64)) : ¬ ValidV n (wVal ws) := by
  intro hv
  have := hv.2.2.2.2 _ (List.getElem_mem (by rw [wVal_len]; exact h))
  rw [wVal_at ws k h] at this
  exact hn this

theorem l1Blocks_any (a p : Option Addr) (n ca m cp : Nat) (w : World) (hn : n ≤ 2097152) :
    Calls Try.prog 35 #[.agg #[.slice a n ca, .slice p m cp]] w fun e w' => e = .returned (.int .i64 ((n : Int) / 64)) ∧ Below w.heap.size w w' := by
  go_enter Try.func35, Try.ntmps35
  go_wp2
  go_ret
  exact ⟨rfl, (Below.refl _ _).alloc (Nat.le_refl _) _⟩

set_option maxHeartbeats 4000000 in
theorem validDisk_spec (a p : Option Addr) (n ca m cp : Nat) (ws : List WV) (w : World) (hp : PRead w p m ws) (hn : n ≤ 2097152) (hm : m ≤ 2097152) :
    Calls Try.prog 42 #[.agg #[.slice a n ca, .slice p m cp]] w fun e w' => e = .returned (.bool (validB n (wVal ws))) ∧ Below w.heap.size w w' := by
  have hp0 := hp
  obtain ⟨hx, hc, hd⟩ := hp
  by_cases t1 : n % 64 = 0
  case neg =>
    have HF : Hid (validB n (wVal ws) = false) := validB_false (fun hv => t1 hv.1)
    have u1 : ((n : Int) % 64 != 0) = true := by simp; omega
    clear hp0 hc hd
    go_enter Try.func42, Try.ntmps42
    go_wp2_with fail
    refine (l1Blocks_any _ _ _ _ _ _ _ hn).mono ?_
    rintro e w1 ⟨rfl, hb1⟩
    have hblk := (hb1.block w.heap.size (by simp)).trans (heap_alloc_new w _)
    have hbel : Below w.heap.size w w1 := ((Below.refl _ _).alloc (Nat.le_refl _) _).trans (hb1.mono (by simp))
    obtain ⟨p1, p2, _, _⟩ := two_cells hblk
    clear hb1
    go_wp2
    go_ret
    exact ⟨ret_boolB HF.out.symm, hbel⟩
  have u1 : ((n : Int) % 64 != 0) = false := by simp; omega
  by_cases t2 : 1 ≤ n / 64
  case neg =>
    have HF : Hid (validB n (wVal ws) = false) := validB_false (fun hv => t2 hv.2.1)
    have u2 : (n : Int) / 64 < 1 := by omega
    clear hp0 hc hd
    go_enter Try.func42, Try.ntmps42
    go_wp2_with fail
    refine (l1Blocks_any _ _ _ _ _ _ _ hn).mono ?_
    rintro e w1 ⟨rfl, hb1⟩
    have hblk := (hb1.block w.heap.size (by simp)).trans (heap_alloc_new w _)
    have hbel : Below w.heap.size w w1 := ((Below.refl _ _).alloc (Nat.le_refl _) _).trans (hb1.mono (by simp))
    obtain ⟨p1, p2, _, _⟩ := two_cells hblk
    clear hb1
    go_wp2
    go_ret
    exact ⟨ret_boolB HF.out.symm, hbel⟩
  have u2 : decide ((n : Int) / 64 < 1) = false := by simp; omega
  by_cases t3 : n / 64 ≤ 1200
  case neg =>
    have HF : Hid (validB n (wVal ws) = false) := validB_false (fun hv => t3 hv.2.2.1)
    have u3 : 1200 < (n : Int) / 64 := by omega
    clear hp0 hc hd
    go_enter Try.func42, Try.ntmps42
    go_wp2_with fail
    refine (l1Blocks_any _ _ _ _ _ _ _ hn).mono ?_
    rintro e w1 ⟨rfl, hb1⟩
    have hblk := (hb1.block w.heap.size (by simp)).trans (heap_alloc_new w _)
    have hbel : Below w.heap.size w w1 := ((Below.refl _ _).alloc (Nat.le_refl _) _).trans (hb1.mono (by simp))
    obtain ⟨p1, p2, _, _⟩ := two_cells hblk
    clear hb1
    go_wp2
    go_ret
    exact ⟨ret_boolB HF.out.symm, hbel⟩
  have u3 : decide (1200 < (n : Int) / 64) = false := by simp; omega
  by_cases t4 : m ≤ 400
  case neg =>
    have HF : Hid (validB n (wVal ws) = false) := validB_false (fun hv => by have := hv.2.2.2.1; rw [wVal_len] at this; omega)
    have u4 : 400 < (m : Int) := by omega
    clear hp0 hc hd
    go_enter Try.func42, Try.ntmps42
    go_wp2_with fail
    refine (l1Blocks_any _ _ _ _ _ _ _ hn).mono ?_
    rintro e w1 ⟨rfl, hb1⟩
    have hblk := (hb1.block w.heap.size (by simp)).trans (heap_alloc_new w _)
    have hbel : Below w.heap.size w w1 := ((Below.refl _ _).alloc (Nat.le_refl _) _).trans (hb1.mono (by simp))
    obtain ⟨p1, p2, _, _⟩ := two_cells hblk
    clear hb1
    go_wp2
    go_ret
    exact ⟨ret_boolB HF.out.symm, hbel⟩
  have u4 : decide (400 < (m : Int)) = false := by simp; omega
  have HX : Hid (ws.length = m) := hx
  have HV : Hid (∀ (h : ∀ x ∈ wVal ws, OkW ((n / 64 : Nat) : Int) x), validB n (wVal ws) = true) := fun h => validB_true ⟨t1, t2, t3, by rw [wVal_len, hx]; exact t4, h⟩
  clear hx t1 t2 t3
  rcases hc with h0 | ⟨g, off, rfl, hc⟩
  · subst h0
    have HF : Hid (validB n (wVal ws) = true) := HV.out (by rw [List.length_eq_zero_iff.1 HX.out]; simp [wVal])
    clear hp0 hd
    go_enter Try.func42, Try.ntmps42
    go_wp2_with fail
    refine (l1Blocks_any _ _ _ _ _ _ _ hn).mono ?_
    rintro e w1 ⟨rfl, hb1⟩
    have hblk := (hb1.block w.heap.size (by simp)).trans (heap_alloc_new w _)
    have hbel : Below w.heap.size w w1 := ((Below.refl _ _).alloc (Nat.le_refl _) _).trans (hb1.mono (by simp))
    obtain ⟨p1, p2, _, _⟩ := two_cells hblk
    clear hb1
    go_wp2
    refine wp_loop_rounds 1 ?_
    rw [rounds_succ]
    go_wp2
    go_ret
    exact ⟨ret_boolB HF.out.symm, hbel⟩
  · have HA : Hid (PRead w (some ⟨g, off, none⟩) m ws) := hp0
    clear hp0 hc hd
    go_enter Try.func42, Try.ntmps42
    go_wp2_with fail
    refine (l1Blocks_any _ _ _ _ _ _ _ hn).mono ?_
    rintro e w1 ⟨rfl, hb1⟩
    have hblk := (hb1.block w.heap.size (by simp)).trans (heap_alloc_new w _)
    have hbel : Below w.heap.size w w1 := ((Below.refl _ _).alloc (Nat.le_refl _) _).trans (hb1.mono (by simp))
    obtain ⟨p1, p2, _, _⟩ := two_cells hblk
    clear hb1
    go_wp2
    go_loopw [4] (fun i wr => ∃ k : Nat, k ≤ m ∧ i = .int .i64 k ∧ (∀ x ∈ (wVal ws).take k, OkW ((n / 64 : Nat) : Int) x) ∧ Below w.heap.size w wr ∧ wr.heap[w.heap.size]? = some (.cells #[.slice a n ca, .slice (some ⟨g, off, none⟩) m cp] 33 (0, 0))) (fun i _ => m - (intOf i).toNat)
    case atStart => exact ⟨0, Nat.zero_le _, rfl, fun x hx => by simp at hx, hbel, hblk⟩
    case round =>
      obtain ⟨k, hk, rfl, hok, hbl, hbk⟩ := hrel
      have HOK : Hid (∀ x ∈ (wVal ws).take k, OkW ((n / 64 : Nat) : Int) x) := hok
      have HBK : Hid (wr.heap[w.heap.size]? = some (.cells #[.slice a n ca, .slice (some ⟨g, off, none⟩) m cp] 33 (0, 0))) := hbk
      obtain ⟨v1, v2, _, _⟩ := two_cells hbk
      have hszr : w.heap.size < wr.heap.size := (Array.getElem?_eq_some_iff.1 hbk).1
      clear hok hbk
      by_cases hlt : k < m
      · obtain ⟨_, hc0, hd0⟩ := HA.out.below hbl
        rcases hc0 with h0 | ⟨g', off', he, hc0⟩
        · omega
        injection he with he; injection he with he1 he2
        subst he1; subst he2
        obtain ⟨c1, c2⟩ := hc0 k hlt
        have hlen := (hd0 k hlt).1.1
        have hgl := World.block_lt_of_cell? wr _ c1
        clear hc0 hd0
        have hkl : k < ws.length := by rw [HX.out]; exact hlt
        by_cases y1 : wBlk ws k < 0
        · have HF : Hid (validB n (wVal ws) = false) := validB_false (notValid_at hkl (by omega))
          clear hlen hkl
          go_wp2
          go_ret
          exact ⟨ret_boolB HF.out.symm, hbl⟩
        by_cases y2 : wBlk ws k < (n : Int) / 64
        · by_cases y3 : wN ws k = 64
          · have HS : Hid (∀ x ∈ (wVal ws).take (k + 1), OkW ((n / 64 : Nat) : Int) x) := okW_succ hkl HOK.out (by omega) (by omega) (by omega)
            have z3 : ((wN ws k : Int) != 64) = false := by simp; omega
            clear hlen hkl y3
            go_wp2
            go_roundw
            case rel => exact ⟨k + 1, by omega, by go_num, HS.out, hbl, HBK.out⟩
            case measure => simp [intOf]; omega
          · have HF : Hid (validB n (wVal ws) = false) := validB_false (notValid_at hkl (by omega))
            have z3 : ((wN ws k : Int) != 64) = true := by simp; omega
            clear hlen hkl y3
            go_wp2
            go_ret
            exact ⟨ret_boolB HF.out.symm, hbl⟩
        · have HF : Hid (validB n (wVal ws) = false) := validB_false (notValid_at hkl (by omega))
          have z2 : (n : Int) / 64 ≤ wBlk ws k := by omega
          clear hlen hkl y2
          go_wp2
          go_ret
          exact ⟨ret_boolB HF.out.symm, hbl⟩
      · have HF : Hid (validB n (wVal ws) = true) := HV.out (by have := HOK.out; rwa [List.take_of_length_le (by rw [wVal_len, HX.out]; omega)] at this)
        go_wp2
        go_ret
        exact ⟨ret_boolB HF.out.symm, hbl⟩

set_option maxHeartbeats 4000000 in
theorem validDisk_impl (a p : Option Addr) (n ca m cp : Nat) (ws : List WV) (w : World) (hp : PRead w p m ws) (hn : n ≤ 2097152) (hm : m ≤ 2097152) :
    Calls Try.prog 37 #[.agg #[.slice a n ca, .slice p m cp]] w fun e w' => e = .returned (.bool (validB n (wVal ws))) ∧ Below w.heap.size w w' := by
  have hp0 := hp
  obtain ⟨hx, hc, hd⟩ := hp
  by_cases t1 : n % 64 = 0
  case neg =>
    have HF : Hid (validB n (wVal ws) = false) := validB_false (fun hv => t1 hv.1)
    have u1 : ((n : Int) % 64 != 0) = true := by simp; omega
    clear hp0 hc hd
    go_enter Try.func37, Try.ntmps37
    go_wp2
    go_ret
    exact ⟨ret_boolB HF.out.symm, (Below.refl _ _).alloc (Nat.le_refl _) _⟩
  have u1 : ((n : Int) % 64 != 0) = false := by simp; omega
  by_cases t2 : 1 ≤ n / 64
  case neg =>
    have HF : Hid (validB n (wVal ws) = false) := validB_false (fun hv => t2 hv.2.1)
    have u2 : (n : Int) / 64 < 1 := by omega
    clear hp0 hc hd
    go_enter Try.func37, Try.ntmps37
    go_wp2
    go_ret
    exact ⟨ret_boolB HF.out.symm, (Below.refl _ _).alloc (Nat.le_refl _) _⟩
  have u2 : decide ((n : Int) / 64 < 1) = false := by simp; omega
  by_cases t3 : n / 64 ≤ 1200
  case neg =>
    have HF : Hid (validB n (wVal ws) = false) := validB_false (fun hv => t3 hv.2.2.1)
    have u3 : 1200 < (n : Int) / 64 := by omega
    clear hp0 hc hd
    go_enter Try.func37, Try.ntmps37
    go_wp2
    go_ret
    exact ⟨ret_boolB HF.out.symm, (Below.refl _ _).alloc (Nat.le_refl _) _⟩
  have u3 : decide (1200 < (n : Int) / 64) = false := by simp; omega
  by_cases t4 : m ≤ 400
  case neg =>
    have HF : Hid (validB n (wVal ws) = false) := validB_false (fun hv => by have := hv.2.2.2.1; rw [wVal_len] at this; omega)
    have u4 : 400 < (m : Int) := by omega
    clear hp0 hc hd
    go_enter Try.func37, Try.ntmps37
    go_wp2
    go_ret
    exact ⟨ret_boolB HF.out.symm, (Below.refl _ _).alloc (Nat.le_refl _) _⟩
  have u4 : decide (400 < (m : Int)) = false := by simp; omega
  have HX : Hid (ws.length = m) := hx
  have HV : Hid (∀ (h : ∀ x ∈ wVal ws, OkW ((n / 64 : Nat) : Int) x), validB n (wVal ws) = true) := fun h => validB_true ⟨t1, t2, t3, by rw [wVal_len, hx]; exact t4, h⟩
  clear hx t1 t2 t3
  rcases hc with h0 | ⟨g, off, rfl, hc⟩
  · subst h0
    have HF : Hid (validB n (wVal ws) = true) := HV.out (by rw [List.length_eq_zero_iff.1 HX.out]; simp [wVal])
    clear hp0 hd
    go_enter Try.func37, Try.ntmps37
    go_wp2
    refine wp_loop_rounds 1 ?_
    rw [rounds_succ]
    go_wp2
    go_ret
    exact ⟨ret_boolB HF.out.symm, (Below.refl _ _).alloc (Nat.le_refl _) _⟩
  · have HA : Hid (PRead w (some ⟨g, off, none⟩) m ws) := hp0
    clear hp0 hc hd
    go_enter Try.func37, Try.ntmps37
    go_wp2
    go_loopw [32] (fun i wr => ∃ k : Nat, k ≤ m ∧ i = .int .i64 k ∧ (∀ x ∈ (wVal ws).take k, OkW ((n / 64 : Nat) : Int) x) ∧ Below w.heap.size w wr ∧ wr.heap[w.heap.size]? = some (.cells #[.slice a n ca, .slice (some ⟨g, off, none⟩) m cp] 33 (0, 0))) (fun i _ => m - (intOf i).toNat)
    case atStart => exact ⟨0, Nat.zero_le _, rfl, fun x hx => by simp at hx, (Below.refl _ _).alloc (Nat.le_refl _) _, heap_alloc_new w _⟩
    case round =>
      obtain ⟨k, hk, rfl, hok, hbl, hbk⟩ := hrel
      have HOK : Hid (∀ x ∈ (wVal ws).take k, OkW ((n / 64 : Nat) : Int) x) := hok
      have HBK : Hid (wr.heap[w.heap.size]? = some (.cells #[.slice a n ca, .slice (some ⟨g, off, none⟩) m cp] 33 (0, 0))) := hbk
      obtain ⟨v1, v2, _, _⟩ := two_cells hbk
      have hszr : w.heap.size < wr.heap.size := (Array.getElem?_eq_some_iff.1 hbk).1
      clear hok hbk
      by_cases hlt : k < m
      · obtain ⟨_, hc0, hd0⟩ := HA.out.below hbl
        rcases hc0 with h0 | ⟨g', off', he, hc0⟩
        · omega
        injection he with he; injection he with he1 he2
        subst he1; subst he2
        obtain ⟨c1, c2⟩ := hc0 k hlt
        have hlen := (hd0 k hlt).1.1
        have hgl := World.block_lt_of_cell? wr _ c1
        clear hc0 hd0
        have hkl : k < ws.length := by rw [HX.out]; exact hlt
        by_cases y1 : wBlk ws k < 0
        · have HF : Hid (validB n (wVal ws) = false) := validB_false (notValid_at hkl (by omega))
          clear hlen hkl
          go_wp2
          go_ret
          exact ⟨ret_boolB HF.out.symm, hbl.alloc (by omega) _⟩
        by_cases y2 : wBlk ws k < (n : Int) / 64
        · by_cases y3 : wN ws k = 64
          · have HS : Hid (∀ x ∈ (wVal ws).take (k + 1), OkW ((n / 64 : Nat) : Int) x) := okW_succ hkl HOK.out (by omega) (by omega) (by omega)
            have z3 : ((wN ws k : Int) != 64) = false := by simp; omega
            clear hlen hkl y3
            go_wp2
            go_roundw
            case rel => exact ⟨k + 1, by omega, by go_num, HS.out, hbl.alloc (by omega) _, (heap_alloc_old wr _ hszr).trans HBK.out⟩
            case measure => simp [intOf]; omega
          · have HF : Hid (validB n (wVal ws) = false) := validB_false (notValid_at hkl (by omega))
            have z3 : ((wN ws k : Int) != 64) = true := by simp; omega
            clear hlen hkl y3
            go_wp2
            go_ret
            exact ⟨ret_boolB HF.out.symm, hbl.alloc (by omega) _⟩
        · have HF : Hid (validB n (wVal ws) = false) := validB_false (notValid_at hkl (by omega))
          have z2 : (n : Int) / 64 ≤ wBlk ws k := by omega
          clear hlen hkl y2
          go_wp2
          go_ret
          exact ⟨ret_boolB HF.out.symm, hbl.alloc (by omega) _⟩
      · have HF : Hid (validB n (wVal ws) = true) := HV.out (by have := HOK.out; rwa [List.take_of_length_le (by rw [wVal_len, HX.out]; omega)] at this)
        go_wp2
        go_ret
        exact ⟨ret_boolB HF.out.symm, hbl⟩

end Go.Proofs.Ytkkammbfomiofaa
