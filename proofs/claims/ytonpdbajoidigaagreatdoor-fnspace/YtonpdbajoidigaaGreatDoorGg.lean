/-
  Mth, Ints, Cand, FreeS.
-/
import Derived.WalkKit
import Derived.Test.YtonpdbajoidigaaGreatDoorGb
/-
  Choosing the best of a list: numbers alone.
-/
namespace Go.Proofs.YtonpdbajoidigaaGreatDoor
open Go.RowKit
set_option linter.unusedSimpArgs false
set_option linter.unusedVariables false

/-- The counts that fit, with their numbers. -/
def candL (fit : Nat → Bool) (cs : List Int) (k : Nat) : List (Int × Int) := ((List.range k).filter fit).map fun i : Nat => ((i : Int), cs[i]?.getD 0)
theorem candL_yes {fit : Nat → Bool} (cs : List Int) {k : Nat} (h : fit k = true) : candL fit cs (k + 1) = candL fit cs k ++ [((k : Int), cs[k]?.getD 0)] := by
  simp [candL, List.range_succ, List.filter_append, h]
theorem candL_no {fit : Nat → Bool} (cs : List Int) {k : Nat} (h : fit k = false) : candL fit cs (k + 1) = candL fit cs k := by
  simp [candL, List.range_succ, List.filter_append, h]
theorem candL_len (fit : Nat → Bool) (cs : List Int) (k : Nat) : (candL fit cs k).length ≤ k := by
  simp only [candL, List.length_map]
  exact Nat.le_trans (List.length_filter_le _ _) (by simp)

def stepO (lt : Int × Int → Int × Int → Bool) (o : Option (Int × Int)) (x : Int × Int) : Option (Int × Int) :=
  match o with
  | none => some x
  | some k => if lt x k then some x else some k
theorem stepO_lt {lt : Int × Int → Int × Int → Bool} {x k : Int × Int} (h : lt x k = true) : stepO lt (some k) x = some x := by simp [stepO, h]
theorem stepO_ge {lt : Int × Int → Int × Int → Bool} {x k : Int × Int} (h : lt x k = false) : stepO lt (some k) x = some k := by simp [stepO, h]
def bestO (lt : Int × Int → Int × Int → Bool) (l : List (Int × Int)) : Option (Int × Int) := l.foldl (stepO lt) none
theorem bestO_app (lt : Int × Int → Int × Int → Bool) (l : List (Int × Int)) (x : Int × Int) : bestO lt (l ++ [x]) = stepO lt (bestO lt l) x := by simp [bestO]
theorem bestO_take (lt : Int × Int → Int × Int → Bool) (l : List (Int × Int)) (k : Nat) (h : k < l.length) : bestO lt (l.take (k + 1)) = stepO lt (bestO lt (l.take k)) (l[k]?.getD (0, 0)) := by
  rw [List.take_succ_eq_append_getElem h, bestO_app, List.getElem?_eq_getElem h]; rfl
def numO (o : Option (Int × Int)) : Int := match o with | none => -1 | some p => p.1

/-- v is the number of the best that fits: the least count, then the least number; -1 if none fits. -/
def Best (fit : Nat → Bool) (cs : List Int) (n : Nat) (v : Int) : Prop :=
  (v = -1 ∧ ∀ j, j < n → fit j = false) ∨ ∃ i, i < n ∧ v = (i : Int) ∧ fit i = true ∧ ∀ j, j < n → fit j = true → cs[i]?.getD 0 < cs[j]?.getD 0 ∨ (cs[i]?.getD 0 = cs[j]?.getD 0 ∧ i ≤ j)
theorem Best.unique {fit : Nat → Bool} {cs : List Int} {n : Nat} {v u : Int} (h : Best fit cs n v) (k : Best fit cs n u) : v = u := by
  rcases h with ⟨rfl, h⟩ | ⟨i, hi, rfl, hf, hm⟩
  · rcases k with ⟨rfl, _⟩ | ⟨j, hj, rfl, hg, _⟩
    · rfl
    · rw [h j hj] at hg; cases hg
  · rcases k with ⟨rfl, k⟩ | ⟨j, hj, rfl, hg, km⟩
    · rw [k i hi] at hf; cases hf
    · have a := hm j hj hg
      have b := km i hi hf
      omega

def ltN (a b : Int × Int) : Bool := decide (a.1 < b.1)
def ltC (a b : Int × Int) : Bool := decide (a.2 < b.2)

theorem best_ltC (fit : Nat → Bool) (cs : List Int) (k : Nat) :
    (bestO ltC (candL fit cs k) = none ∧ ∀ j, j < k → fit j = false) ∨ ∃ i, i < k ∧ bestO ltC (candL fit cs k) = some ((i : Int), cs[i]?.getD 0) ∧ fit i = true ∧ ∀ j, j < k → fit j = true → cs[i]?.getD 0 < cs[j]?.getD 0 ∨ (cs[i]?.getD 0 = cs[j]?.getD 0 ∧ i ≤ j) := by
  induction k with
  | zero => exact .inl ⟨rfl, fun j hj => by omega⟩
  | succ k ih =>
    cases hf : fit k
    · rw [candL_no cs hf]
      rcases ih with ⟨e, h⟩ | ⟨i, hi, e, hfi, h⟩
      · refine .inl ⟨e, fun j hj => ?_⟩
        by_cases q : j = k
        · rw [q]; exact hf
        · exact h j (by omega)
      · refine .inr ⟨i, by omega, e, hfi, fun j hj hj2 => ?_⟩
        by_cases q : j = k
        · rw [q, hf] at hj2; cases hj2
        · exact h j (by omega) hj2
    · rw [candL_yes cs hf, bestO_app]
      rcases ih with ⟨e, h⟩ | ⟨i, hi, e, hfi, h⟩
      · rw [e]
        refine .inr ⟨k, by omega, rfl, hf, fun j hj hj2 => ?_⟩
        by_cases q : j = k
        · rw [q]; exact .inr ⟨rfl, Nat.le_refl _⟩
        · rw [h j (by omega)] at hj2; cases hj2
      · rw [e]
        by_cases c : cs[k]?.getD 0 < cs[i]?.getD 0
        · rw [stepO_lt (decide_eq_true c)]
          refine .inr ⟨k, by omega, rfl, hf, fun j hj hj2 => ?_⟩
          by_cases q : j = k
          · rw [q]; exact .inr ⟨rfl, Nat.le_refl _⟩
          · have := h j (by omega) hj2; omega
        · rw [stepO_ge (decide_eq_false c)]
          refine .inr ⟨i, by omega, rfl, hfi, fun j hj hj2 => ?_⟩
          by_cases q : j = k
          · rw [q]; omega
          · exact h j (by omega) hj2
theorem best_ltN (fit : Nat → Bool) (cs : List Int) (k : Nat) :
    (bestO ltN (candL fit cs k) = none ∧ ∀ j, j < k → fit j = false) ∨ ∃ i, i < k ∧ bestO ltN (candL fit cs k) = some ((i : Int), cs[i]?.getD 0) ∧ fit i = true ∧ ∀ j, j < k → fit j = true → i ≤ j := by
  induction k with
  | zero => exact .inl ⟨rfl, fun j hj => by omega⟩
  | succ k ih =>
    cases hf : fit k
    · rw [candL_no cs hf]
      rcases ih with ⟨e, h⟩ | ⟨i, hi, e, hfi, h⟩
      · refine .inl ⟨e, fun j hj => ?_⟩
        by_cases q : j = k
        · rw [q]; exact hf
        · exact h j (by omega)
      · refine .inr ⟨i, by omega, e, hfi, fun j hj hj2 => ?_⟩
        by_cases q : j = k
        · rw [q, hf] at hj2; cases hj2
        · exact h j (by omega) hj2
    · rw [candL_yes cs hf, bestO_app]
      rcases ih with ⟨e, h⟩ | ⟨i, hi, e, hfi, h⟩
      · rw [e]
        refine .inr ⟨k, by omega, rfl, hf, fun j hj hj2 => ?_⟩
        by_cases q : j = k
        · omega
        · rw [h j (by omega)] at hj2; cases hj2
      · rw [e]
        rw [stepO_ge (decide_eq_false (by show ¬ ((k : Int) < (i : Int)); omega))]
        refine .inr ⟨i, by omega, rfl, hfi, fun j hj hj2 => ?_⟩
        by_cases q : j = k
        · omega
        · exact h j (by omega) hj2

/-- What fits as a free segment, as a victim. -/
def fitF (cs : List Int) (act : Int) (i : Nat) : Bool := decide ((i : Int) ≠ act) && decide (cs[i]?.getD 0 = 0)
def fitV (cs : List Int) (act sb : Int) (i : Nat) : Bool := decide ((i : Int) ≠ act) && (decide (1 ≤ cs[i]?.getD 0) && decide (cs[i]?.getD 0 < sb))

theorem best_free (cs : List Int) (act : Int) (n : Nat) : Best (fitF cs act) cs n (numO (bestO ltN (candL (fitF cs act) cs n))) := by
  rcases best_ltN (fitF cs act) cs n with ⟨e, h⟩ | ⟨i, hi, e, hf, h⟩
  · rw [e]; exact .inl ⟨rfl, h⟩
  · rw [e]
    refine .inr ⟨i, hi, rfl, hf, fun j hj hj2 => .inr ⟨?_, h j hj hj2⟩⟩
    simp only [fitF, Bool.and_eq_true, decide_eq_true_eq] at hf hj2
    rw [hf.2, hj2.2]
theorem best_victim (cs : List Int) (act sb : Int) (n : Nat) : Best (fitV cs act sb) cs n (numO (bestO ltC (candL (fitV cs act sb) cs n))) := by
  rcases best_ltC (fitV cs act sb) cs n with ⟨e, h⟩ | ⟨i, hi, e, hf, h⟩
  · rw [e]; exact .inl ⟨rfl, h⟩
  · rw [e]; exact .inr ⟨i, hi, rfl, hf, h⟩
end Go.Proofs.YtonpdbajoidigaaGreatDoor

/-
  Lists of int64: szInt64S, toInt64S, eqInt64S, markInt64S.
-/
namespace Go.Proofs.YtonpdbajoidigaaGreatDoor
open Go.RowKit
set_option linter.unusedSimpArgs false
set_option linter.unusedVariables false

theorem info2 : (Tryz.prog.info? 2).map (fun i => (i.zero, i.size, i.bytes)) = some (some (.int .i64 0), 1, 8) := by kernel_rfl
def markI (k : Int) (n : Nat) : List Int := (List.range n).map fun i : Nat => k + (i : Int)
theorem markI_len (k : Int) (n : Nat) : (markI k n).length = n := by simp [markI]
theorem markI_at (k : Int) (n i : Nat) (h : i < n) : (markI k n)[i]?.getD 0 = k + (i : Int) := by simp [markI, h]
theorem step_markI (k : Int) (xs : List Int) (j i : Nat) :
    (if i < j + 1 then (k + (i : Int)) else xs[i]?.getD 0) = if i = j then (k + (j : Int)) else if i < j then (k + (i : Int)) else xs[i]?.getD 0 := by
  by_cases e : i = j
  · subst e; simp
  · rw [if_neg e]; by_cases h : i < j
    · rw [if_pos h, if_pos (by omega)]
    · rw [if_neg h, if_neg (by omega)]

end Go.Proofs.YtonpdbajoidigaaGreatDoor

/-
  Segments: candidates, best, chooseSegment, with the closures that FreeSegment and PickVictim hand over.
-/
namespace Go.Proofs.YtonpdbajoidigaaGreatDoor
open Go.RowKit
set_option linter.unusedSimpArgs false
set_option linter.unusedVariables false

/-- Pairs as cells. -/
def pC (l : List (Int × Int)) : List Value := l.flatMap fun x => [.int .i64 x.1, .int .i64 x.2]
theorem pC_append (xs ys : List (Int × Int)) : pC (xs ++ ys) = pC xs ++ pC ys := by simp [pC]
theorem pC_one (x : Int × Int) : pC [x] = [.int .i64 x.1, .int .i64 x.2] := by simp [pC]
theorem pC_len (ns : List (Int × Int)) : (pC ns).length = ns.length * 2 := by
  induction ns with
  | nil => rfl
  | cons x ns ih => simp only [pC, List.flatMap_cons, List.length_append, List.length_cons, List.length_nil] at ih ⊢; omega
theorem pC_at (ns : List (Int × Int)) : ∀ i, i < ns.length → (pC ns)[i * 2]? = some (.int .i64 (nW ns i)) ∧ (pC ns)[i * 2 + 1]? = some (.int .i64 (nV ns i)) := by
  induction ns with
  | nil => intro i h; simp at h
  | cons x ns ih =>
    intro i h
    cases i with
    | zero => simp [pC, nW, nV]
    | succ i =>
      have := ih i (by simpa using h)
      have e1 : (i + 1) * 2 = i * 2 + 1 + 1 := by omega
      have e2 : (i + 1) * 2 + 1 = i * 2 + 1 + 1 + 1 := by omega
      rw [e1]
      simpa [pC, nW, nV] using this
theorem owns_pread {w : World} {B n : Nat} {s : Value} {ns : List (Int × Int)} (h : w.ownsRow B 276 2 s n (pC ns)) : ∃ a c, s = .slice a n c ∧ NRead w a n ns := by
  have hl : ns.length = n := by have := h.1; rw [pC_len] at this; omega
  have h' := h
  rcases h.2 with ⟨rfl, h0⟩ | ⟨g, cap, cur, rfl, hB, hg, hc, hm, hsz, ht⟩
  · exact ⟨none, 0, by rw [h0], hl, .inl h0⟩
  · refine ⟨some ⟨g, 0, none⟩, cap, rfl, hl, .inr ⟨g, 0, rfl, fun i hi => ?_⟩⟩
    obtain ⟨q1, q2⟩ := pC_at ns i (by omega)
    rw [Nat.zero_add, h'.cellAt _ (by omega), h'.cellAt _ (by omega)]
    exact ⟨q1, q2⟩
theorem owns_shapeC {w : World} {B e sz n : Nat} {v : Value} {xs : List Value} (h : w.ownsRow B e sz v n xs) : ∃ a c, v = .slice a n c := by
  rcases h.2 with ⟨rfl, h0⟩ | ⟨g, cap, cur, rfl, _⟩
  · exact ⟨none, 0, by rw [h0]⟩
  · exact ⟨_, _, rfl⟩
theorem infoC : (Tryz.prog.info? 276).map (fun i => (i.zero, i.size, i.bytes)) = some (some (.agg #[.int .i64 0, .int .i64 0]), 2, 16) := by kernel_rfl
theorem two_newC {w : World} {x y : Value} {t : TypeId} : ∀ j u, [x, y][j]? = some u → (w.alloc (.cells #[x, y] t)).cell? ((⟨w.heap.size, 0, none⟩ : Addr).add j) = some u := by
  intro j u hj
  match j, hj with
  | 0, hj => simp at hj; subst hj; simp [Addr.add]
  | 1, hj => simp at hj; subst hj; simp [Addr.add]
theorem two_i64C (x y : Int) : ∀ u ∈ [Value.int .i64 x, Value.int .i64 y], u.oneCell' = true := by intro u hu; simp at hu; rcases hu with rfl | rfl <;> rfl
theorem NRead.belowC {w w' : World} {a : Option Addr} {m : Nat} {ns : List (Int × Int)} (h : NRead w a m ns) (hb : Below w.heap.size w w') : NRead w' a m ns := by
  refine ⟨h.1, ?_⟩
  by_cases hm : m = 0
  · exact .inl hm
  rcases h.2 with h0 | ⟨g, off, e, hc⟩
  · exact .inl h0
  · refine .inr ⟨g, off, e, fun i hi => ?_⟩
    rw [hb.cell (World.block_lt_of_cell? w _ (hc i hi).1), hb.cell (World.block_lt_of_cell? w _ (hc i hi).2)]
    exact hc i hi
theorem setTwo {w : World} {r : Nat} {u0 u1 v0 v1 : Value} {t : TypeId} (h : w.heap[r]? = some (.cells #[u0, u1] t (0, 0))) : ((w.setCell ⟨r, 0, none⟩ v0).setCell ⟨r, 1, none⟩ v1).heap[r]? = some (.cells #[v0, v1] t (0, 0)) := by
  simp [World.setCell, Array.getElem?_modify, h]
theorem n_at (ns : List (Int × Int)) (i : Nat) : ns[i]?.getD (0, 0) = (nW ns i, nV ns i) := rfl

set_option maxHeartbeats 4000000 in
set_option maxRecDepth 100000 in
theorem candidates_free (a : Option Addr) (n ca : Nat) (xs : List Int) (act : Int) (w : World) (ha : IRow .i64 w a n xs) (hn : n ≤ 2097152) :
    Calls Tryz.prog 154 #[.slice a n ca, .int .i64 act, .func (.func 176) #[] #[]] w fun e w' => ∃ s, e = .returned s ∧ w'.ownsRow w.heap.size 276 2 s (candL (fitF xs act) xs n).length (pC (candL (fitF xs act) xs n)) ∧ Below w.heap.size w w' := by
  obtain ⟨i2, ki, kz0, kz1, kz2⟩ := info_parts infoC
  have HX : Hid (xs.length = n) := ha.1
  have HA : Hid (IRow .i64 w a n xs) := ha
  clear ha
  go_enter Tryz.func154, Tryz.ntmps154
  go_wp2
  go_loopw [7, 13] (fun s i wr => ∃ k : Nat, k ≤ n ∧ i = .int .i64 k ∧ wr.ownsRow w.heap.size 276 2 s (candL (fitF xs act) xs k).length (pC (candL (fitF xs act) xs k)) ∧ Below w.heap.size w wr) (fun _ i _ => n - (intOf i).toNat)
  case atStart => exact ⟨0, Nat.zero_le _, rfl, ⟨rfl, .inr ⟨_, 0, #[], rfl, Nat.le_refl _, heap_alloc_new w _, Nat.le_refl _, Nat.zero_le _, rfl, rfl⟩⟩, (Below.refl _ _).alloc (Nat.le_refl _) _⟩
  case round =>
    obtain ⟨k, hk, rfl, own1, hB1⟩ := hrel
    have hcl := candL_len (fitF xs act) xs k
    obtain ⟨a5, c5, rfl⟩ := owns_shapeC own1
    have s1 := hB1.size
    by_cases hlt : k < n
    · obtain ⟨g, off, rfl, hcx⟩ := HA.out.2.resolve_left (by omega)
      have c1 : wr.cell? ⟨g, off + k, none⟩ = some (.int .i64 (xs[k]?.getD 0)) := (hB1.cell (World.block_lt_of_cell? w _ (hcx k hlt))).trans (hcx k hlt)
      have hfit : fitF xs act k = (decide ((k : Int) ≠ act) && decide (xs[k]?.getD 0 = 0)) := rfl
      have HN : Hid (fitF xs act k = false → candL (fitF xs act) xs (k + 1) = candL (fitF xs act) xs k) := fun h => candL_no xs h
      have HY : Hid (fitF xs act k = true → pC (candL (fitF xs act) xs (k + 1)) = pC (candL (fitF xs act) xs k) ++ [.int .i64 (k : Int), .int .i64 (xs[k]?.getD 0)] ∧ (candL (fitF xs act) xs (k + 1)).length = (candL (fitF xs act) xs k).length + 1) := fun h => by rw [candL_yes xs h]; exact ⟨by rw [pC_append, pC_one], by simp⟩
      generalize xs[k]?.getD 0 = x at *
      clear hcx
      by_cases ha' : (k : Int) = act
      · have u1 : ((k : Int) != act) = false := by simp [ha']
        have HA' : Hid ((k : Int) = act) := ha'
        clear ha'
        have HF := HN.out (by rw [hfit]; simp [HA'.out])
        have HF1 : Hid (candL (fitF xs act) xs (k + 1) = candL (fitF xs act) xs k) := HF
        clear HF HN HY hfit
        go_wp2
        go_roundw
        case rel => exact ⟨k + 1, by omega, by go_num, by rw [HF1.out]; exact own1, hB1⟩
        case measure => simp [intOf]; omega
      · have u1 : ((k : Int) != act) = true := by simp [ha']
        have HA' : Hid (¬ (k : Int) = act) := ha'
        clear ha'
        by_cases hx : x = 0
        · have u2 : (x == 0) = true := by simp [hx]
          have HX' : Hid (x = 0) := hx
          clear hx
          obtain ⟨HF, HF2⟩ := HY.out (by rw [hfit]; simp [HA'.out, HX'.out])
          have HF1 : Hid (pC (candL (fitF xs act) xs (k + 1)) = pC (candL (fitF xs act) xs k) ++ [.int .i64 (k : Int), .int .i64 x] ∧ (candL (fitF xs act) xs (k + 1)).length = (candL (fitF xs act) xs k).length + 1) := ⟨HF, HF2⟩
          clear HF HF2 HN HY hfit
          go_wp2_with (first
            | (at_builtin; refine wpList_append_own _ rfl _ _ 252 rfl w.heap.size 276 i2 (.agg #[.int .i64 0, .int .i64 0]) 2 16 Tryz.underlying252 ki kz0 kz1 kz2 rfl (by decide) _ _ _ rfl (own1.alloc _) ⟨wr.heap.size, 0, none⟩ 1 1 [.int .i64 (k : Int), .int .i64 x] rfl rfl two_newC (two_i64C _ _) (by unfold maxLen; omega) (by omega) (by simp; omega) ?_)
            | go_in)
          intro s' w5 own5 grow5 _
          have hB5 : Below w.heap.size w w5 := (hB1.alloc s1 _).grown grow5 (by simp; omega) (fun k hk => by have := (own1.lt k hk).1; omega)
          rw [← HF1.out.1, ← HF1.out.2] at own5
          clear own1 grow5
          go_wp2
          go_roundw
          case rel => exact ⟨k + 1, by omega, by go_num, own5, hB5⟩
          case measure => simp [intOf]; omega
        · have u2 : (x == 0) = false := by simpa using hx
          have HX' : Hid (¬ x = 0) := hx
          clear hx
          have HF := HN.out (by rw [hfit]; simp [HX'.out])
          have HF1 : Hid (candL (fitF xs act) xs (k + 1) = candL (fitF xs act) xs k) := HF
          clear HF HN HY hfit
          go_wp2
          go_roundw
          case rel => exact ⟨k + 1, by omega, by go_num, by rw [HF1.out]; exact own1, hB1⟩
          case measure => simp [intOf]; omega

    · have hkn : k = n := by omega
      subst hkn
      go_wp2
      go_ret
      exact ⟨_, rfl, own1, hB1⟩

set_option maxHeartbeats 4000000 in
set_option maxRecDepth 100000 in
theorem candidates_victim (a : Option Addr) (n ca : Nat) (xs : List Int) (act : Int) (sb : Int) (B : Nat) (w : World) (ha : IRow .i64 w a n xs) (hn : n ≤ 2097152) (hcap : w.cell? ⟨B, 0, none⟩ = some (.int .i64 sb)) :
    Calls Tryz.prog 154 #[.slice a n ca, .int .i64 act, .func (.func 152) #[] #[.pointer (some ⟨B, 0, none⟩)]] w fun e w' => ∃ s, e = .returned s ∧ w'.ownsRow w.heap.size 276 2 s (candL (fitV xs act sb) xs n).length (pC (candL (fitV xs act sb) xs n)) ∧ Below w.heap.size w w' := by
  obtain ⟨i2, ki, kz0, kz1, kz2⟩ := info_parts infoC
  have HX : Hid (xs.length = n) := ha.1
  have HA : Hid (IRow .i64 w a n xs) := ha
  clear ha
  go_enter Tryz.func154, Tryz.ntmps154
  go_wp2
  go_loopw [7, 13] (fun s i wr => ∃ k : Nat, k ≤ n ∧ i = .int .i64 k ∧ wr.ownsRow w.heap.size 276 2 s (candL (fitV xs act sb) xs k).length (pC (candL (fitV xs act sb) xs k)) ∧ Below w.heap.size w wr) (fun _ i _ => n - (intOf i).toNat)
  case atStart => exact ⟨0, Nat.zero_le _, rfl, ⟨rfl, .inr ⟨_, 0, #[], rfl, Nat.le_refl _, heap_alloc_new w _, Nat.le_refl _, Nat.zero_le _, rfl, rfl⟩⟩, (Below.refl _ _).alloc (Nat.le_refl _) _⟩
  case round =>
    obtain ⟨k, hk, rfl, own1, hB1⟩ := hrel
    have hcl := candL_len (fitV xs act sb) xs k
    obtain ⟨a5, c5, rfl⟩ := owns_shapeC own1
    have s1 := hB1.size
    by_cases hlt : k < n
    · obtain ⟨g, off, rfl, hcx⟩ := HA.out.2.resolve_left (by omega)
      have c1 : wr.cell? ⟨g, off + k, none⟩ = some (.int .i64 (xs[k]?.getD 0)) := (hB1.cell (World.block_lt_of_cell? w _ (hcx k hlt))).trans (hcx k hlt)
      have hfit : fitV xs act sb k = (decide ((k : Int) ≠ act) && (decide (1 ≤ xs[k]?.getD 0) && decide (xs[k]?.getD 0 < sb))) := rfl
      have HN : Hid (fitV xs act sb k = false → candL (fitV xs act sb) xs (k + 1) = candL (fitV xs act sb) xs k) := fun h => candL_no xs h
      have HY : Hid (fitV xs act sb k = true → pC (candL (fitV xs act sb) xs (k + 1)) = pC (candL (fitV xs act sb) xs k) ++ [.int .i64 (k : Int), .int .i64 (xs[k]?.getD 0)] ∧ (candL (fitV xs act sb) xs (k + 1)).length = (candL (fitV xs act sb) xs k).length + 1) := fun h => by rw [candL_yes xs h]; exact ⟨by rw [pC_append, pC_one], by simp⟩
      generalize xs[k]?.getD 0 = x at *
      clear hcx
      have cB : wr.cell? ⟨B, 0, none⟩ = some (.int .i64 sb) := (hB1.cell (World.block_lt_of_cell? w _ hcap)).trans hcap
      by_cases ha' : (k : Int) = act
      · have u1 : ((k : Int) != act) = false := by simp [ha']
        have HA' : Hid ((k : Int) = act) := ha'
        clear ha'
        have HF := HN.out (by rw [hfit]; simp [HA'.out])
        have HF1 : Hid (candL (fitV xs act sb) xs (k + 1) = candL (fitV xs act sb) xs k) := HF
        clear HF HN HY hfit
        go_wp2
        go_roundw
        case rel => exact ⟨k + 1, by omega, by go_num, by rw [HF1.out]; exact own1, hB1⟩
        case measure => simp [intOf]; omega
      · have u1 : ((k : Int) != act) = true := by simp [ha']
        have HA' : Hid (¬ (k : Int) = act) := ha'
        clear ha'
        by_cases hx : x < 1
        · have u3 : ¬ (1 ≤ x) := by omega
          have HF := HN.out (by rw [hfit]; simp [u3])
          have HF1 : Hid (candL (fitV xs act sb) xs (k + 1) = candL (fitV xs act sb) xs k) := HF
          clear HF HN HY hfit
          go_wp2
          go_roundw
          case rel => exact ⟨k + 1, by omega, by go_num, by rw [HF1.out]; exact own1, hB1⟩
          case measure => simp [intOf]; omega
        · by_cases hs : x < sb
          · have u3 : 1 ≤ x := by omega
            obtain ⟨HF, HF2⟩ := HY.out (by rw [hfit]; simp [HA'.out, u3, hs])
            have HF1 : Hid (pC (candL (fitV xs act sb) xs (k + 1)) = pC (candL (fitV xs act sb) xs k) ++ [.int .i64 (k : Int), .int .i64 x] ∧ (candL (fitV xs act sb) xs (k + 1)).length = (candL (fitV xs act sb) xs k).length + 1) := ⟨HF, HF2⟩
            clear HF HF2 HN HY hfit
            go_wp2_with (first
              | (at_builtin; refine wpList_append_own _ rfl _ _ 252 rfl w.heap.size 276 i2 (.agg #[.int .i64 0, .int .i64 0]) 2 16 Tryz.underlying252 ki kz0 kz1 kz2 rfl (by decide) _ _ _ rfl (own1.alloc _) ⟨wr.heap.size, 0, none⟩ 1 1 [.int .i64 (k : Int), .int .i64 x] rfl rfl two_newC (two_i64C _ _) (by unfold maxLen; omega) (by omega) (by simp; omega) ?_)
              | go_in)
            intro s' w5 own5 grow5 _
            have hB5 : Below w.heap.size w w5 := (hB1.alloc s1 _).grown grow5 (by simp; omega) (fun k hk => by have := (own1.lt k hk).1; omega)
            rw [← HF1.out.1, ← HF1.out.2] at own5
            clear own1 grow5
            go_wp2
            go_roundw
            case rel => exact ⟨k + 1, by omega, by go_num, own5, hB5⟩
            case measure => simp [intOf]; omega
          · have u3 : 1 ≤ x := by omega
            have HF := HN.out (by rw [hfit]; simp [hs])
            have HF1 : Hid (candL (fitV xs act sb) xs (k + 1) = candL (fitV xs act sb) xs k) := HF
            clear HF HN HY hfit
            go_wp2
            go_roundw
            case rel => exact ⟨k + 1, by omega, by go_num, by rw [HF1.out]; exact own1, hB1⟩
            case measure => simp [intOf]; omega

    · have hkn : k = n := by omega
      subst hkn
      go_wp2
      go_ret
      exact ⟨_, rfl, own1, hB1⟩

theorem small_any (x y q1 q2 : Int) (w : World) :
    Calls Tryz.prog 155 #[.agg #[.int .i64 x, .int .i64 y], .agg #[.int .i64 q1, .int .i64 q2]] w fun e w' => e = .returned (.bool (decide (y < q2))) ∧ Below w.heap.size w w' := by
  go_enter Tryz.func155, Tryz.ntmps155
  go_wp2
  go_ret
  exact ⟨rfl, ((Below.refl _ _).alloc (Nat.le_refl _) _).alloc (by simp) _⟩
set_option maxHeartbeats 4000000 in
set_option maxRecDepth 100000 in
theorem best_small (a : Option Addr) (m c : Nat) (l : List (Int × Int)) (w : World) (ha : NRead w a m l) (hm : m ≤ 2097152) :
    Calls Tryz.prog 181 #[.slice a m c, .func (.func 155) #[] #[]] w fun e w' => e = .returned (.tuple #[.agg #[.int .i64 ((bestO ltC l).getD (0, 0)).1, .int .i64 ((bestO ltC l).getD (0, 0)).2], .bool (bestO ltC l).isSome]) ∧ Below w.heap.size w w' := by
  have HX : Hid (l.length = m) := ha.1
  have HA : Hid (NRead w a m l) := ha
  clear ha
  go_enter Tryz.func181, Tryz.ntmps181
  go_wp2
  go_loopw [5, 10] (fun f i wr => ∃ k : Nat, k ≤ m ∧ i = .int .i64 k ∧ f = .bool (bestO ltC (l.take k)).isSome ∧ wr.heap[w.heap.size]? = some (.cells #[.int .i64 ((bestO ltC (l.take k)).getD (0, 0)).1, .int .i64 ((bestO ltC (l.take k)).getD (0, 0)).2] 276 (0, 0)) ∧ Below w.heap.size w wr) (fun _ i _ => m - (intOf i).toNat)
  case atStart => exact ⟨0, Nat.zero_le _, rfl, by simp [bestO], by simpa [bestO] using heap_alloc_new w _, (Below.refl _ _).alloc (Nat.le_refl _) _⟩
  case round =>
    obtain ⟨k, hk, rfl, rfl, k1, hB1⟩ := hrel
    have l1 := (Array.getElem?_eq_some_iff.1 k1).1
    by_cases hlt : k < m
    · obtain ⟨g, off, rfl, hcx⟩ := HA.out.2.resolve_left (by omega)
      obtain ⟨c1, c2⟩ := hcx k hlt
      have c1' : wr.cell? ⟨g, off + k * 2, none⟩ = some (.int .i64 (nW l k)) := (hB1.cell (World.block_lt_of_cell? w _ c1)).trans c1
      have c2' : wr.cell? ⟨g, off + k * 2 + 1, none⟩ = some (.int .i64 (nV l k)) := (hB1.cell (World.block_lt_of_cell? w _ c2)).trans c2
      have HS : Hid (bestO ltC (l.take (k + 1)) = stepO ltC (bestO ltC (l.take k)) (nW l k, nV l k)) := bestO_take ltC l k (by rw [HX.out]; exact hlt)
      generalize hx : nW l k = x at *
      generalize hy : nV l k = y at *
      clear hcx c1 c2 hx hy
      have s1 := hB1.size
      cases ho : bestO ltC (l.take k) with
      | none =>
        rw [ho] at k1 HS
        simp only [Option.getD_none, Option.isSome_none] at k1 ⊢
        obtain ⟨y0, y1, z0, z1⟩ := two_cellsB k1
        have HO : Hid (bestO ltC (l.take (k + 1)) = some (x, y)) := HS.out
        have k2 := setTwo k1 (v0 := .int .i64 x) (v1 := .int .i64 y)
        have l2 : w.heap.size < ((wr.setCell ⟨w.heap.size, 0, none⟩ (.int .i64 x)).setCell ⟨w.heap.size, 1, none⟩ (.int .i64 y)).heap.size := by simpa [World.setCell] using l1
        clear ho k1
        go_wp2
        go_roundw
        case rel => exact ⟨k + 1, by omega, by go_num, by rw [HO.out]; rfl, by rw [HO.out]; exact (heap_alloc_old _ _ l2).trans k2, ((hB1.setCell (Nat.le_refl _) _).setCell (Nat.le_refl _) _).alloc (by simp [World.setCell]; omega) _⟩
        case measure => simp [intOf]; omega
      | some q =>
        obtain ⟨q1, q2⟩ := q
        rw [ho] at k1 HS
        simp only [Option.getD_some, Option.isSome_some] at k1 ⊢
        obtain ⟨y0, y1, z0, z1⟩ := two_cellsB k1
        go_wp2_with fail
        refine (small_any x y q1 q2 _).mono ?_
        rintro e w2 ⟨rfl, hb2⟩
        have hb2' : Below wr.heap.size wr w2 := ((Below.refl _ _).alloc (Nat.le_refl _) _).trans (hb2.mono (by simp))
        have j2 := (hb2.block wr.heap.size (by simp)).trans (heap_alloc_new wr _)
        have k3 := (hb2'.block w.heap.size l1).trans k1
        have hB2 : Below w.heap.size w w2 := hB1.trans (hb2'.mono s1)
        have l3 := (Array.getElem?_eq_some_iff.1 k3).1
        clear hb2 hb2' k1 y0 y1 z0 z1 c1' c2'
        obtain ⟨y0, y1, z0, z1⟩ := two_cellsB k3
        obtain ⟨x0, x1, _, _⟩ := two_cellsB j2
        by_cases hc : y < q2
        · have HO : Hid (bestO ltC (l.take (k + 1)) = some (x, y)) := HS.out.trans (stepO_lt (decide_eq_true hc))
          have k2 := setTwo k3 (v0 := .int .i64 x) (v1 := .int .i64 y)
          rw [decide_eq_true hc]
          clear ho k3
          go_wp2
          go_roundw
          case rel => exact ⟨k + 1, by omega, by go_num, by rw [HO.out]; rfl, by rw [HO.out]; exact k2, (hB2.setCell (Nat.le_refl _) _).setCell (Nat.le_refl _) _⟩
          case measure => simp [intOf]; omega
        · have HO : Hid (bestO ltC (l.take (k + 1)) = some (q1, q2)) := HS.out.trans (stepO_ge (decide_eq_false hc))
          rw [decide_eq_false hc]
          clear ho
          go_wp2
          go_roundw
          case rel => exact ⟨k + 1, by omega, by go_num, by rw [HO.out]; rfl, by rw [HO.out]; exact k3, hB2⟩
          case measure => simp [intOf]; omega
    · have hkm : k = m := by omega
      subst hkm
      have e : l.take k = l := List.take_of_length_le (by rw [HX.out]; omega)
      rw [e] at k1 ⊢
      obtain ⟨y0, y1, z0, z1⟩ := two_cellsB k1
      go_wp2
      refine bodyPost_ret (v := .tuple #[.agg #[.int .i64 ((bestO ltC l).getD (0, 0)).1, .int .i64 ((bestO ltC l).getD (0, 0)).2], .bool (bestO ltC l).isSome]) (by simp [results, Tryz.results181, go_sem, y0, y1]) rfl ?_
      exact ⟨rfl, (hB1.setCell (Nat.le_refl _) _).setCell (Nat.le_refl _) _⟩

theorem low_any (x y q1 q2 : Int) (w : World) :
    Calls Tryz.prog 177 #[.agg #[.int .i64 x, .int .i64 y], .agg #[.int .i64 q1, .int .i64 q2]] w fun e w' => e = .returned (.bool (decide (x < q1))) ∧ Below w.heap.size w w' := by
  go_enter Tryz.func177, Tryz.ntmps177
  go_wp2
  go_ret
  exact ⟨rfl, ((Below.refl _ _).alloc (Nat.le_refl _) _).alloc (by simp) _⟩
set_option maxHeartbeats 4000000 in
set_option maxRecDepth 100000 in
theorem best_low (a : Option Addr) (m c : Nat) (l : List (Int × Int)) (w : World) (ha : NRead w a m l) (hm : m ≤ 2097152) :
    Calls Tryz.prog 181 #[.slice a m c, .func (.func 177) #[] #[]] w fun e w' => e = .returned (.tuple #[.agg #[.int .i64 ((bestO ltN l).getD (0, 0)).1, .int .i64 ((bestO ltN l).getD (0, 0)).2], .bool (bestO ltN l).isSome]) ∧ Below w.heap.size w w' := by
  have HX : Hid (l.length = m) := ha.1
  have HA : Hid (NRead w a m l) := ha
  clear ha
  go_enter Tryz.func181, Tryz.ntmps181
  go_wp2
  go_loopw [5, 10] (fun f i wr => ∃ k : Nat, k ≤ m ∧ i = .int .i64 k ∧ f = .bool (bestO ltN (l.take k)).isSome ∧ wr.heap[w.heap.size]? = some (.cells #[.int .i64 ((bestO ltN (l.take k)).getD (0, 0)).1, .int .i64 ((bestO ltN (l.take k)).getD (0, 0)).2] 276 (0, 0)) ∧ Below w.heap.size w wr) (fun _ i _ => m - (intOf i).toNat)
  case atStart => exact ⟨0, Nat.zero_le _, rfl, by simp [bestO], by simpa [bestO] using heap_alloc_new w _, (Below.refl _ _).alloc (Nat.le_refl _) _⟩
  case round =>
    obtain ⟨k, hk, rfl, rfl, k1, hB1⟩ := hrel
    have l1 := (Array.getElem?_eq_some_iff.1 k1).1
    by_cases hlt : k < m
    · obtain ⟨g, off, rfl, hcx⟩ := HA.out.2.resolve_left (by omega)
      obtain ⟨c1, c2⟩ := hcx k hlt
      have c1' : wr.cell? ⟨g, off + k * 2, none⟩ = some (.int .i64 (nW l k)) := (hB1.cell (World.block_lt_of_cell? w _ c1)).trans c1
      have c2' : wr.cell? ⟨g, off + k * 2 + 1, none⟩ = some (.int .i64 (nV l k)) := (hB1.cell (World.block_lt_of_cell? w _ c2)).trans c2
      have HS : Hid (bestO ltN (l.take (k + 1)) = stepO ltN (bestO ltN (l.take k)) (nW l k, nV l k)) := bestO_take ltN l k (by rw [HX.out]; exact hlt)
      generalize hx : nW l k = x at *
      generalize hy : nV l k = y at *
      clear hcx c1 c2 hx hy
      have s1 := hB1.size
      cases ho : bestO ltN (l.take k) with
      | none =>
        rw [ho] at k1 HS
        simp only [Option.getD_none, Option.isSome_none] at k1 ⊢
        obtain ⟨y0, y1, z0, z1⟩ := two_cellsB k1
        have HO : Hid (bestO ltN (l.take (k + 1)) = some (x, y)) := HS.out
        have k2 := setTwo k1 (v0 := .int .i64 x) (v1 := .int .i64 y)
        have l2 : w.heap.size < ((wr.setCell ⟨w.heap.size, 0, none⟩ (.int .i64 x)).setCell ⟨w.heap.size, 1, none⟩ (.int .i64 y)).heap.size := by simpa [World.setCell] using l1
        clear ho k1
        go_wp2
        go_roundw
        case rel => exact ⟨k + 1, by omega, by go_num, by rw [HO.out]; rfl, by rw [HO.out]; exact (heap_alloc_old _ _ l2).trans k2, ((hB1.setCell (Nat.le_refl _) _).setCell (Nat.le_refl _) _).alloc (by simp [World.setCell]; omega) _⟩
        case measure => simp [intOf]; omega
      | some q =>
        obtain ⟨q1, q2⟩ := q
        rw [ho] at k1 HS
        simp only [Option.getD_some, Option.isSome_some] at k1 ⊢
        obtain ⟨y0, y1, z0, z1⟩ := two_cellsB k1
        go_wp2_with fail
        refine (low_any x y q1 q2 _).mono ?_
        rintro e w2 ⟨rfl, hb2⟩
        have hb2' : Below wr.heap.size wr w2 := ((Below.refl _ _).alloc (Nat.le_refl _) _).trans (hb2.mono (by simp))
        have j2 := (hb2.block wr.heap.size (by simp)).trans (heap_alloc_new wr _)
        have k3 := (hb2'.block w.heap.size l1).trans k1
        have hB2 : Below w.heap.size w w2 := hB1.trans (hb2'.mono s1)
        have l3 := (Array.getElem?_eq_some_iff.1 k3).1
        clear hb2 hb2' k1 y0 y1 z0 z1 c1' c2'
        obtain ⟨y0, y1, z0, z1⟩ := two_cellsB k3
        obtain ⟨x0, x1, _, _⟩ := two_cellsB j2
        by_cases hc : x < q1
        · have HO : Hid (bestO ltN (l.take (k + 1)) = some (x, y)) := HS.out.trans (stepO_lt (decide_eq_true hc))
          have k2 := setTwo k3 (v0 := .int .i64 x) (v1 := .int .i64 y)
          rw [decide_eq_true hc]
          clear ho k3
          go_wp2
          go_roundw
          case rel => exact ⟨k + 1, by omega, by go_num, by rw [HO.out]; rfl, by rw [HO.out]; exact k2, (hB2.setCell (Nat.le_refl _) _).setCell (Nat.le_refl _) _⟩
          case measure => simp [intOf]; omega
        · have HO : Hid (bestO ltN (l.take (k + 1)) = some (q1, q2)) := HS.out.trans (stepO_ge (decide_eq_false hc))
          rw [decide_eq_false hc]
          clear ho
          go_wp2
          go_roundw
          case rel => exact ⟨k + 1, by omega, by go_num, by rw [HO.out]; rfl, by rw [HO.out]; exact k3, hB2⟩
          case measure => simp [intOf]; omega
    · have hkm : k = m := by omega
      subst hkm
      have e : l.take k = l := List.take_of_length_le (by rw [HX.out]; omega)
      rw [e] at k1 ⊢
      obtain ⟨y0, y1, z0, z1⟩ := two_cellsB k1
      go_wp2
      refine bodyPost_ret (v := .tuple #[.agg #[.int .i64 ((bestO ltN l).getD (0, 0)).1, .int .i64 ((bestO ltN l).getD (0, 0)).2], .bool (bestO ltN l).isSome]) (by simp [results, Tryz.results181, go_sem, y0, y1]) rfl ?_
      exact ⟨rfl, (hB1.setCell (Nat.le_refl _) _).setCell (Nat.le_refl _) _⟩

set_option maxHeartbeats 1000000 in
theorem choose_low (a : Option Addr) (m c : Nat) (l : List (Int × Int)) (w : World) (ha : NRead w a m l) (hm : m ≤ 2097152) :
    Calls Tryz.prog 153 #[.slice a m c, .func (.func 177) #[] #[]] w fun e w' => e = .returned (.int .i64 (numO (bestO ltN l))) ∧ Below w.heap.size w w' := by
  have hb := best_low a m c l w ha hm
  generalize bestO ltN l = o at *
  go_enter Tryz.func153, Tryz.ntmps153
  go_wp2_with fail
  refine hb.mono ?_
  rintro e w2 ⟨rfl, hb2⟩
  have hb3 := fun o => hb2.alloc hb2.size o
  clear hb2 hb
  cases o with
  | none =>
    go_wp2
    go_ret
    exact ⟨rfl, hb3 _⟩
  | some q =>
    go_wp2
    go_ret
    exact ⟨rfl, hb3 _⟩

set_option maxHeartbeats 1000000 in
theorem choose_small (a : Option Addr) (m c : Nat) (l : List (Int × Int)) (w : World) (ha : NRead w a m l) (hm : m ≤ 2097152) :
    Calls Tryz.prog 153 #[.slice a m c, .func (.func 155) #[] #[]] w fun e w' => e = .returned (.int .i64 (numO (bestO ltC l))) ∧ Below w.heap.size w w' := by
  have hb := best_small a m c l w ha hm
  generalize bestO ltC l = o at *
  go_enter Tryz.func153, Tryz.ntmps153
  go_wp2_with fail
  refine hb.mono ?_
  rintro e w2 ⟨rfl, hb2⟩
  have hb3 := fun o => hb2.alloc hb2.size o
  clear hb2 hb
  cases o with
  | none =>
    go_wp2
    go_ret
    exact ⟨rfl, hb3 _⟩
  | some q =>
    go_wp2
    go_ret
    exact ⟨rfl, hb3 _⟩
end Go.Proofs.YtonpdbajoidigaaGreatDoor

/-
  FreeSegment, both sides; FnExactFreeSegment: the law's walk.
-/
namespace Go.Proofs.YtonpdbajoidigaaGreatDoor
open Go.RowKit
set_option linter.unusedSimpArgs false
set_option linter.unusedVariables false

/-- The number that FreeSegment answers. -/
def freeN (xs : List Int) (act : Int) (n : Nat) : Int := numO (bestO ltN (candL (fitF xs act) xs n))

set_option maxHeartbeats 1000000 in
theorem freeSegment_impl (a : Option Addr) (n ca : Nat) (xs : List Int) (act : Int) (w : World) (ha : IRow .i64 w a n xs) (hn : n ≤ 2097152) :
    Calls Tryz.prog 142 #[.slice a n ca, .int .i64 act] w fun e w' => e = .returned (.int .i64 (freeN xs act n)) ∧ Below w.heap.size w w' := by
  have hc := candidates_free a n ca xs act w ha hn
  have hl := candL_len (fitF xs act) xs n
  have hl2 : (candL (fitF xs act) xs n).length ≤ 2097152 := by omega
  have hB : ∀ (b : Option Addr) (c : Nat) (v : World), NRead v b (candL (fitF xs act) xs n).length (candL (fitF xs act) xs n) → Calls Tryz.prog 153 #[.slice b (candL (fitF xs act) xs n).length c, .func (.func 177) #[] #[]] v fun e w' => e = .returned (.int .i64 (freeN xs act n)) ∧ Below v.heap.size v w' := fun b c v hv => choose_low b _ c _ v hv hl2
  generalize candL (fitF xs act) xs n = l at *
  generalize freeN xs act n = r at *
  clear ha hl hl2
  go_enter Tryz.func142, Tryz.ntmps142
  go_wp2_with fail
  refine hc.mono ?_
  rintro e w2 ⟨s, rfl, own2, hb2⟩
  obtain ⟨b, c, rfl, hr⟩ := owns_pread own2
  clear own2 hc
  go_wp2_with fail
  refine (hB b c w2 hr).mono ?_
  rintro e w3 ⟨rfl, hb3⟩
  have hb4 := hb2.trans (hb3.mono hb2.size)
  clear hb2 hb3 hB hr
  go_wp2
  go_ret
  exact ⟨rfl, hb4⟩

end Go.Proofs.YtonpdbajoidigaaGreatDoor
