/-
  EncodeTable, the specification's and the program's.
-/
import Derived.Test.YtkkammbfomiofaaDoorEnt
namespace Go.Proofs.YtkkammbfomiofaaDoor
open Go.RowKit
set_option linter.unusedSimpArgs false
set_option linter.unusedVariables false

/-- A valid entry. -/
def veB (x : Int) (b : Bool) : Bool := decide (0 ≤ x) && (decide (x ≤ 32767) && (decide (x ≠ 0) || !b))
/-- The number of an entry. -/
def eNum (x : Int) (b : Bool) : Int := if b then x + 32768 else x
/-- The bytes of entries. -/
def eBytes (es : List (Int × Bool)) : List Int := es.flatMap fun e => beB (eNum e.1 e.2) 2
def eAll (es : List (Int × Bool)) : Bool := es.all fun e => veB e.1 e.2
def encT (es : List (Int × Bool)) : List Int := if es.length ≤ 1024 ∧ eAll es = true then eBytes es else []

set_option maxHeartbeats 1000000 in
theorem validEntry_spec (x : Int) (b : Bool) (w : World) :
    Calls Tryd.prog 31 #[.agg #[.int .i64 x, .bool b]] w fun e w' => e = .returned (.bool (veB x b)) ∧ Below w.heap.size w w' := by
  have HB : ∀ o, Below w.heap.size w (w.alloc o) := fun o => (Below.refl _ _).alloc (Nat.le_refl _) o
  by_cases h1 : x < 0
  · go_enter Tryd.func31, Tryd.ntmps31
    go_wp2
    go_ret
    exact ⟨ret_boolB (by simp [veB]; omega), HB _⟩
  by_cases h2 : 32767 < x
  · go_enter Tryd.func31, Tryd.ntmps31
    go_wp2
    go_ret
    exact ⟨ret_boolB (by simp [veB]; omega), HB _⟩
  by_cases h3 : x = 0
  · subst h3
    go_enter Tryd.func31, Tryd.ntmps31
    go_wp2
    go_ret
    exact ⟨ret_boolB (by simp [veB]), HB _⟩
  · have h4 : 0 < x := by omega
    clear h3
    go_enter Tryd.func31, Tryd.ntmps31
    go_wp2
    go_ret
    exact ⟨ret_boolB (by simp [veB]; omega), HB _⟩

set_option maxHeartbeats 1000000 in
theorem validEntry_impl (x : Int) (b : Bool) (w : World) :
    Calls Tryd.prog 28 #[.agg #[.int .i64 x, .bool b]] w fun e w' => e = .returned (.bool (veB x b)) ∧ Below w.heap.size w w' := by
  have HB : ∀ o, Below w.heap.size w (w.alloc o) := fun o => (Below.refl _ _).alloc (Nat.le_refl _) o
  by_cases h1 : x < 0
  · go_enter Tryd.func28, Tryd.ntmps28
    go_wp2
    go_ret
    exact ⟨ret_boolB (by simp [veB]; omega), HB _⟩
  by_cases h2 : 32767 < x
  · go_enter Tryd.func28, Tryd.ntmps28
    go_wp2
    go_ret
    exact ⟨ret_boolB (by simp [veB]; omega), HB _⟩
  by_cases h3 : x = 0
  · subst h3
    have h5 : ((0 : Int) != 0) = false := rfl
    go_enter Tryd.func28, Tryd.ntmps28
    go_wp2
    go_ret
    exact ⟨ret_boolB (by simp [veB]), HB _⟩
  · have h4 : 0 < x := by omega
    have h5 : (x != 0) = true := by simpa using h3
    clear h3
    go_enter Tryd.func28, Tryd.ntmps28
    go_wp2
    go_ret
    exact ⟨ret_boolB (by simp [veB]; omega), HB _⟩

theorem entryNumber_any (x : Int) (b : Bool) (w : World) (h0 : 0 ≤ x) (h1 : x ≤ 32767) :
    Calls Tryd.prog 29 #[.agg #[.int .i64 x, .bool b]] w fun e w' => e = .returned (.agg #[.int .i64 2, .int .i64 (eNum x b)]) ∧ Below w.heap.size w w' := by
  have HB : ∀ o o', Below w.heap.size w ((w.alloc o).alloc o') := fun o o' => ((Below.refl _ _).alloc (Nat.le_refl _) _).alloc (by simp) _
  cases b
  · go_enter Tryd.func29, Tryd.ntmps29
    go_wp2
    exact bodyPost_ret (v := .agg #[.int .i64 2, .int .i64 x]) (by simp [results, Tryd.results29, go_sem]) rfl ⟨rfl, HB _ _⟩
  · go_enter Tryd.func29, Tryd.ntmps29
    go_wp2
    exact bodyPost_ret (v := .agg #[.int .i64 2, .int .i64 (x + 32768)]) (by simp [results, Tryd.results29, go_sem]) rfl ⟨rfl, HB _ _⟩

theorem owns_below {w w' : World} {B e sz n : Nat} {s : Value} {xs : List Value} (h : w.ownsRow B e sz s n xs) (hb : Below w.heap.size w w') : w'.ownsRow B e sz s n xs :=
  h.kept (row := none) ⟨hb.os, hb.tape, hb.output, hb.size, fun k hk _ => hb.block k hk⟩ (by cases hv : s.ownBlock <;> simp)

theorem e_at (es : List (Int × Bool)) (k : Nat) (h : k < es.length) : es[k] = (eA es k, eI es k) := by simp [eA, eI, List.getElem?_eq_getElem h]
theorem eBytes_succ (es : List (Int × Bool)) (k : Nat) (h : k < es.length) : eBytes (es.take (k + 1)) = eBytes (es.take k) ++ beB (eNum (eA es k) (eI es k)) 2 := by
  rw [List.take_succ_eq_append_getElem h, e_at es k h]
  simp only [eBytes, List.flatMap_append, List.flatMap_cons, List.flatMap_nil, List.append_nil]
theorem eBytes_len (es : List (Int × Bool)) : (eBytes es).length = es.length * 2 := by
  induction es with
  | nil => rfl
  | cons e es ih => simp only [eBytes, List.flatMap_cons, List.length_append, beB_len, List.length_cons] at ih ⊢; omega
theorem eAll_succ (es : List (Int × Bool)) (k : Nat) (h : k < es.length) : eAll (es.take (k + 1)) = (eAll (es.take k) && veB (eA es k) (eI es k)) := by
  rw [List.take_succ_eq_append_getElem h, e_at es k h]
  simp [eAll]
theorem eAll_no (es : List (Int × Bool)) (k : Nat) (h : k < es.length) (hn : veB (eA es k) (eI es k) = false) : eAll es = false := by
  have e := eAll_succ es k h
  rw [hn, Bool.and_false] at e
  rw [← List.take_append_drop (k + 1) es]
  simp only [eAll, List.all_append, Bool.and_eq_false_iff] at e ⊢
  exact .inl e
theorem veB_bounds {x : Int} {b : Bool} (h : veB x b = true) : 0 ≤ x ∧ x ≤ 32767 := by
  simp only [veB, Bool.and_eq_true, decide_eq_true_eq] at h; exact ⟨h.1, h.2.1⟩
theorem eNum_bounds {x : Int} {b : Bool} (h0 : 0 ≤ x) (h1 : x ≤ 32767) : 0 ≤ eNum x b ∧ eNum x b ≤ 65535 := by
  unfold eNum; split <;> omega

set_option maxHeartbeats 4000000 in
set_option maxRecDepth 100000 in
theorem encodeTable_spec (a : Option Addr) (n ca : Nat) (es : List (Int × Bool)) (w : World) (ha : ERead w a n es) (hn : n ≤ 2097152) :
    Calls Tryd.prog 10 #[.slice a n ca] w fun e w' => ∃ s, e = .returned s ∧ w'.ownsRow w.heap.size 5 1 s (encT es).length (u8s (encT es)) ∧ Below w.heap.size w w' := by
  obtain ⟨i0, hi, hz0, hz1, hz2⟩ := info_parts info5
  obtain ⟨hx, ha⟩ := ha
  by_cases hbig : 1024 < n
  · have HF : Hid (encT es = []) := by show _ = _; unfold encT; rw [if_neg (by omega)]
    have hb' : 1024 < (n : Int) := by omega
    clear ha
    go_enter Tryd.func10, Tryd.ntmps10
    go_wp2
    go_ret
    exact ⟨_, rfl, by rw [HF.out]; exact empty_owned w, (Below.refl _ _).alloc (Nat.le_refl _) _⟩
  have hb' : decide (1024 < (n : Int)) = false := by simp; omega
  rcases ha with h0 | ⟨g, off, rfl, hc⟩
  · subst h0
    have he : es = [] := List.length_eq_zero_iff.1 hx
    subst he
    go_enter Tryd.func10, Tryd.ntmps10
    go_wp2
    refine wp_loop_rounds 1 ?_
    rw [rounds_succ]
    go_wp2
    go_ret
    exact ⟨_, rfl, empty_owned w, (Below.refl _ _).alloc (Nat.le_refl _) _⟩
  · have HX : Hid (es.length = n) := hx
    clear hx
    go_enter Tryd.func10, Tryd.ntmps10
    go_wp2
    go_loopw [3, 4] (fun s i wr => ∃ k : Nat, k ≤ n ∧ i = .int .i64 k ∧ eAll (es.take k) = true ∧ wr.ownsRow w.heap.size 5 1 s (k * 2) (u8s (eBytes (es.take k))) ∧ Below w.heap.size w wr) (fun _ i _ => n - (intOf i).toNat)
    case atStart => exact ⟨0, Nat.zero_le _, rfl, rfl, empty_owned w, (Below.refl _ _).alloc (Nat.le_refl _) _⟩
    case round =>
      obtain ⟨k, hk, rfl, hall, hown, hbel⟩ := hrel
      have HA : Hid (eAll (es.take k) = true) := hall
      clear hall
      by_cases hlt : k < n
      · have hkl : k < es.length := by rw [HX.out]; exact hlt
        obtain ⟨c1, c2⟩ := hc k hlt
        rw [← hbel.cell (World.block_lt_of_cell? w _ c1)] at c1
        rw [← hbel.cell (World.block_lt_of_cell? w _ c2)] at c2
        have hgl := World.block_lt_of_cell? wr _ c1
        simp only at hgl
        clear hc
        cases hv : veB (eA es k) (eI es k)
        · have HF : Hid (encT es = []) := by show _ = _; unfold encT; rw [if_neg (by rw [eAll_no es k hkl hv]; simp)]
          clear hkl hown
          go_wp2_with fail
          refine (validEntry_spec _ _ _).mono ?_
          rintro e w1 ⟨rfl, hb1⟩
          rw [hv]
          go_wp2
          go_ret
          have hb2 : Below w.heap.size w w1 := hbel.trans (hb1.mono hbel.size)
          refine ⟨_, rfl, ?_, hb2.alloc hb2.size _⟩
          rw [HF.out]
          exact World.ownsRow_made w1 #[] 0 hb2.size (Nat.zero_le _) rfl
        · have HS : Hid (eAll (es.take (k + 1)) = true) := by show _ = true; rw [eAll_succ es k hkl, HA.out, hv]; rfl
          have HE : Hid (eBytes (es.take (k + 1)) = eBytes (es.take k) ++ beB (eNum (eA es k) (eI es k)) 2) := eBytes_succ es k hkl
          obtain ⟨v1, v2⟩ := veB_bounds hv
          obtain ⟨v3, v4⟩ := eNum_bounds (b := eI es k) v1 v2
          clear hkl
          go_wp2_with fail
          refine (validEntry_spec _ _ _).mono ?_
          rintro e w1 ⟨rfl, hb1⟩
          rw [hv]
          have d1 := (hb1.cell (p := ⟨g, off + k * 2, none⟩) hgl).trans c1
          have d2 := (hb1.cell (p := ⟨g, off + k * 2 + 1, none⟩) hgl).trans c2
          have hb2 : Below w.heap.size w w1 := hbel.trans (hb1.mono hbel.size)
          have hown1 := owns_below hown hb1
          clear hb1 c1 c2 hown hbel hgl
          generalize eA es k = x at *
          generalize eI es k = b at *
          cases b
          all_goals
            simp only [eNum, Bool.false_eq_true, if_true, if_false] at v3 v4 HE
            go_wp2_with fail
            refine (l2Big_any 2 _ _ v3 (by omega) (by omega)).mono ?_
            rintro e w2 ⟨s2, rfl, hown2, hb3⟩
            obtain ⟨g2, cc2, rfl, hcs, _⟩ := owns_some hown2 (by omega)
            have hown3 := owns_below hown1 hb3
            have hb4 : Below w.heap.size w w2 := hb2.trans (hb3.mono hb2.size)
            have hs4 := hb4.size
            clear hown2 hb3 hown1
            go_wp2_with (at_builtin; refine wpList_append_own _ rfl _ _ 22 rfl w.heap.size 5 i0 (.int .u8 0) 1 1 Tryd.underlying22 hi hz0 hz1 hz2 rfl (by decide) _ _ _ rfl hown3 ⟨g2, 0, none⟩ 2 cc2 _ rfl (by rw [u8s_len, beB_len]) hcs (many_u8 _) (by unfold maxLen; omega) (by omega) (by omega) ?_)
            intro s' w3 hown5 hgrow _
            have hb5 : Below w.heap.size w w3 := hb4.grown hgrow hs4 (fun k hk => (hown3.lt k hk).1)
            have hown6 : w3.ownsRow w.heap.size 5 1 s' ((k + 1) * 2) (u8s (eBytes (es.take (k + 1)))) := by rw [HE.out, u8s_append, Nat.add_mul]; exact hown5
            clear hown5 hown3 hgrow hcs d1 d2
            go_wp2
            go_roundw
            case rel => exact ⟨k + 1, by omega, by go_num, HS.out, hown6, hb5⟩
            case measure => simp [intOf]; omega
      · have hkm : k = n := by omega
        subst hkm
        have HF : Hid (encT es = eBytes es) := by
          show _ = _
          have := HA.out
          rw [List.take_of_length_le (by rw [HX.out]; exact Nat.le_refl _)] at this
          unfold encT; rw [if_pos ⟨by rw [HX.out]; omega, this⟩]
        rw [List.take_of_length_le (by rw [HX.out]; exact Nat.le_refl _)] at hown
        clear hc
        go_wp2
        go_ret
        refine ⟨_, rfl, ?_, hbel⟩
        rw [HF.out, eBytes_len, HX.out]; exact hown
end Go.Proofs.YtkkammbfomiofaaDoor
