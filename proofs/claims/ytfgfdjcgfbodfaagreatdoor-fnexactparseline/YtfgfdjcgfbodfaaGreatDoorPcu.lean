/-
  A line cut at its blanks.
-/
import Derived.Test.YtfgfdjcgfbodfaaGreatDoorSrw
import Derived.Test.YtfgfdjcgfbodfaaGreatDoorPsh
import Derived.Lib.IndexBytes
import Derived.Lib.SplitLaws
import Derived.Laws.IdiomStrings
namespace Go.Proofs.YtfgfdjcgfbodfaaGreatDoor
open Go.RowKit
set_option linter.unusedSimpArgs false
set_option linter.unusedVariables false

def cutL (sep : UInt8) : List UInt8 → List (List UInt8)
  | [] => [[]]
  | b :: r => if b = sep then [] :: cutL sep r else match cutL sep r with
    | h :: t => (b :: h) :: t
    | [] => [[b]]
theorem cut_none (sep : UInt8) : ∀ p : List UInt8, (∀ b ∈ p, b ≠ sep) → cutL sep p = [p] := by
  intro p
  induction p with
  | nil => intro _; rfl
  | cons b p ih =>
    intro h
    simp only [cutL, if_neg (h b (by simp)), ih (fun c hc => h c (by simp [hc]))]
theorem cut_sep (sep : UInt8) (r : List UInt8) : ∀ p : List UInt8, (∀ b ∈ p, b ≠ sep) → cutL sep (p ++ sep :: r) = p :: cutL sep r := by
  intro p
  induction p with
  | nil => intro _; simp [cutL]
  | cons b p ih =>
    intro h
    rw [List.cons_append]
    simp only [cutL, if_neg (h b (by simp)), ih (fun c hc => h c (by simp [hc]))]
theorem cut_ne (sep : UInt8) (l : List UInt8) : cutL sep l ≠ [] := by
  cases l with
  | nil => simp [cutL]
  | cons b r =>
    simp only [cutL]
    split
    · simp
    · split <;> simp
theorem split_cut (c : UInt8) : ∀ (k : Nat) (l : List UInt8), l.length ≤ k → Lib.split l [c] = cutL c l := by
  intro k
  induction k with
  | zero =>
    intro l h
    obtain rfl : l = [] := List.length_eq_zero_iff.1 (by omega)
    rfl
  | succ k ih =>
    intro l h
    by_cases hm : Lib.index l [c] = -1
    · have hb := hm
      rw [Lib.index_one] at hb
      have hno := Lib.indexByte_none hb
      unfold Lib.split
      rw [Lib.count_miss hm]
      rw [cut_none c l (fun b hb' e => by
        obtain ⟨i, hi, rfl⟩ := List.getElem_of_mem hb'
        exact hno i (by rw [List.getElem?_eq_getElem hi, e]))]
      rfl
    · obtain ⟨i, hi⟩ : ∃ i : Nat, Lib.index l [c] = i := ⟨(Lib.index l [c]).toNat, by have := Lib.index_ge l [c]; omega⟩
      have hb := hi
      rw [Lib.index_one] at hb
      obtain ⟨h1, h2⟩ := Lib.indexByte_some hb
      have hlt : i < l.length := by
        rcases Nat.lt_or_ge i l.length with h' | h'
        · exact h'
        · rw [List.getElem?_eq_none h'] at h1; cases h1
      have hsplit : l = l.take i ++ c :: l.drop (i + 1) := by
        have e := List.take_append_drop i l
        rw [List.drop_eq_getElem_cons hlt] at e
        rw [List.getElem?_eq_getElem hlt] at h1
        injection h1 with h1
        rw [h1] at e
        exact e.symm
      have hpre : ∀ b ∈ l.take i, b ≠ c := fun b hb' e => by
        obtain ⟨j, hj, rfl⟩ := List.getElem_of_mem hb'
        rw [List.length_take] at hj
        rw [List.getElem_take] at e
        exact h2 j (by omega) (by rw [List.getElem?_eq_getElem (by omega), e])
      unfold Lib.split
      rw [Lib.count_hit (by simp) hi, Nat.add_comm]
      unfold Lib.splitK
      rw [if_neg (by rw [hi]; simp), hi]
      have e1 : ((i : Int)).toNat = i := by omega
      rw [e1, List.length_singleton, Nat.add_zero]
      have hr := ih (l.drop (i + 1)) (by rw [List.length_drop]; omega)
      unfold Lib.split at hr
      rw [hr]
      conv => rhs; rw [hsplit, cut_sep c _ _ hpre]
theorem splitB_cut (s : ByteArray) (c : UInt8) : (Lib.splitB ⟨#[c]⟩ 0 (Lib.countB s ⟨#[c]⟩) s).map (·.data.toList) = cutL c s.data.toList := by
  rw [Lib.splitB_data]
  exact split_cut c _ s.data.toList (Nat.le_refl _)

/-- n bytes from the head of block g on. -/
def uAt (l : List UInt8) (i : Nat) : UInt8 := l[i]?.getD 0
def UHead (w : World) (g n : Nat) (l : List UInt8) : Prop := l.length = n ∧ ∀ i, i < n → w.cell? ⟨g, i, none⟩ = some (.int .u8 ((uAt l i).toNat : Int))
theorem UHead.below {w w' : World} {g n : Nat} {l : List UInt8} (h : UHead w g n l) (hb : Below w.heap.size w w') : UHead w' g n l :=
  ⟨h.1, fun i hi => (hb.cell (World.block_lt_of_cell? w _ (h.2 i hi))).trans (h.2 i hi)⟩
/-- 'string(text[i:j])'. -/
theorem conv_piece {w : World} {g n : Nat} {l : List UInt8} (h : UHead w g n l) (i j c : Nat) (hij : i ≤ j) (hj : j ≤ n) :
    (convert 22 9 (.slice (some ⟨g, i, none⟩) (j - i) c)).run Tryz.prog w = .ok (.string ⟨((l.drop i).take (j - i)).toArray⟩) w := by
  have hl : ((l.drop i).take (j - i)).length = j - i := by rw [List.length_take, List.length_drop, h.1]; omega
  have := run_convert_bytes_back (P := Tryz.prog) w 22 9 5 ⟨g, i, none⟩ c ((l.drop i).take (j - i)) Tryz.underlying22 Tryz.underlying5 Tryz.underlying9 (fun k hk => by
    rw [hl] at hk
    have hadd : (⟨g, i, none⟩ : Addr).add k = ⟨g, i + k, none⟩ := by unfold Addr.add; split <;> simp_all
    rw [hadd, h.2 (i + k) (by omega)]
    unfold uAt
    rw [List.getElem?_eq_getElem (by rw [h.1]; omega)]
    simp)
  rw [hl] at this
  exact this
theorem conv_none (w : World) (a : Addr) (c : Nat) : (convert 22 9 (.slice (some a) 0 c)).run Tryz.prog w = .ok (.string ⟨#[]⟩) w := by
  have := run_convert_bytes_back (P := Tryz.prog) w 22 9 5 a c [] Tryz.underlying22 Tryz.underlying5 Tryz.underlying9 (fun k hk => absurd hk (Nat.not_lt_zero _))
  exact this
def strsV (ps : List (List UInt8)) : List Value := ps.map fun p => .string ⟨p.toArray⟩
theorem infoS : (Tryz.prog.info? 9).map (fun i => (i.zero, i.size, i.bytes)) = some (some (.string ⟨#[]⟩), 1, 16) := by kernel_rfl
/-- The pieces up to 'from', and the rest whole. -/
def CutAt (sep : UInt8) (l : List UInt8) (f k : Nat) (ps : List (List UInt8)) : Prop := f ≤ k ∧ k ≤ l.length ∧ cutL sep l = ps ++ cutL sep (l.drop f) ∧ ∀ j, f ≤ j → j < k → uAt l j ≠ sep
theorem CutAt.zero (sep : UInt8) (l : List UInt8) : CutAt sep l 0 0 [] := ⟨Nat.le_refl _, Nat.zero_le _, rfl, fun j _ h => absurd h (Nat.not_lt_zero _)⟩
theorem uAt_piece {l : List UInt8} {f k : Nat} {b : UInt8} (hb : b ∈ (l.drop f).take (k - f)) (hk : k ≤ l.length) : ∃ j, f ≤ j ∧ j < k ∧ uAt l j = b := by
  obtain ⟨j, hj, rfl⟩ := List.getElem_of_mem hb
  rw [List.length_take, List.length_drop] at hj
  refine ⟨f + j, by omega, by omega, ?_⟩
  unfold uAt
  rw [List.getElem?_eq_getElem (by omega), List.getElem_take, List.getElem_drop]
  rfl
theorem CutAt.skip {sep : UInt8} {l : List UInt8} {f k : Nat} {ps : List (List UInt8)} (h : CutAt sep l f k ps) (hk : k < l.length) (hq : uAt l k ≠ sep) : CutAt sep l f (k + 1) ps :=
  ⟨Nat.le_succ_of_le h.1, hk, h.2.2.1, fun j h1 h2 => by
    rcases Nat.lt_or_eq_of_le (Nat.le_of_lt_succ h2) with h' | h'
    · exact h.2.2.2 j h1 h'
    · rw [h']; exact hq⟩
theorem CutAt.hit {sep : UInt8} {l : List UInt8} {f k : Nat} {ps : List (List UInt8)} (h : CutAt sep l f k ps) (hk : k < l.length) (hq : uAt l k = sep) : CutAt sep l (k + 1) (k + 1) (ps ++ [(l.drop f).take (k - f)]) := by
  have hf := h.1
  refine ⟨Nat.le_refl _, hk, ?_, fun j h1 h2 => absurd h1 (by omega)⟩
  rw [h.2.2.1, List.append_assoc]
  congr 1
  have e : l.drop f = (l.drop f).take (k - f) ++ sep :: l.drop (k + 1) := by
    conv => lhs; rw [← List.take_append_drop (k - f) (l.drop f)]
    congr 1
    rw [List.drop_drop, show f + (k - f) = k by omega, List.drop_eq_getElem_cons hk]
    unfold uAt at hq
    rw [List.getElem?_eq_getElem hk] at hq
    rw [show l[k] = sep from hq]
  rw [List.singleton_append]
  conv => lhs; rw [e]
  exact cut_sep sep _ _ (fun b hb e => by
    obtain ⟨j, h1, h2, h3⟩ := uAt_piece hb (Nat.le_of_lt hk)
    exact h.2.2.2 j h1 h2 (h3.trans e))
theorem CutAt.stop {sep : UInt8} {l : List UInt8} {f : Nat} {ps : List (List UInt8)} (h : CutAt sep l f l.length ps) : cutL sep l = ps ++ [(l.drop f).take (l.length - f)] := by
  have hf := h.1
  have e : (l.drop f).take (l.length - f) = l.drop f := List.take_of_length_le (by rw [List.length_drop]; omega)
  rw [h.2.2.1]
  congr 1
  have := cut_none sep (l.drop f) (fun b hb e' => by
    rw [← e] at hb
    obtain ⟨j, h1, h2, h3⟩ := uAt_piece hb (Nat.le_refl _)
    exact h.2.2.2 j h1 h2 (h3.trans e'))
  rw [this, e]
theorem one_str {w : World} {x : ByteArray} {t : TypeId} : ∀ j u', [Value.string x][j]? = some u' → (w.alloc (.cells #[.string x] t)).cell? ((⟨w.heap.size, 0, none⟩ : Addr).add j) = some u' := by
  intro j u' hj
  match j, hj with
  | 0, hj => simp at hj; subst hj; simp [Addr.add]
theorem one_oneStr (x : ByteArray) : ∀ u ∈ [Value.string x], u.oneCell' = true := by intro u hu; simp at hu; subst hu; rfl
set_option maxHeartbeats 4000000 in
set_option maxRecDepth 100000 in
theorem cut_spec (g n c : Nat) (l : List UInt8) (sep : UInt8) (w : World) (h : UHead w g n l) (hn : n ≤ 1048576) (hc : n ≤ c) (hcm : c ≤ 9223372036854775807) :
    Calls Tryz.prog 22 #[.slice (some ⟨g, 0, none⟩) n c, .int .u8 sep.toNat] w fun e w' => ∃ v, e = .returned v ∧ w'.ownsRow w.heap.size 9 1 v (cutL sep l).length (strsV (cutL sep l)) ∧ Below w.heap.size w w' := by
  obtain ⟨i0, hi0, hz0, hz1, hz2⟩ := info_parts infoS
  have HU := Lib.hid h
  clear h
  go_enter Tryz.func22, Tryz.ntmps22
  go_wp2_with fail
  go_loopw [5, 6, 7] (fun v f i wr => ∃ (k fr : Nat) (ps : List (List UInt8)), k ≤ n ∧ fr ≤ k ∧ ps.length ≤ k ∧ f = .int .i64 fr ∧ i = .int .i64 k ∧ Hid (wr.ownsRow w.heap.size 9 1 v ps.length (strsV ps) ∧ CutAt sep l fr k ps ∧ Below w.heap.size w wr)) (fun _ _ i _ => n - (intOf i).toNat)
  case atStart => exact ⟨0, 0, [], Nat.zero_le _, Nat.le_refl _, Nat.le_refl _, rfl, rfl, World.ownsRow_made w #[] 0 (Nat.le_refl _) (by unfold maxLen; omega) rfl, CutAt.zero sep l, (Below.refl _ _).alloc (Nat.le_refl _) _⟩
  case round =>
    obtain ⟨k, fr, ps, hk, hfr, hps, rfl, rfl, HR⟩ := hrel
    have hwz := HR.out.2.2.size
    have HU' := Lib.hid (HU.out.below HR.out.2.2)
    by_cases hlt : k < n
    · have c1 := HU'.out.2 k hlt
      have hlt' : (k : Int) < (n : Int) := by omega
      have h0' : (0 : Int) ≤ (k : Int) := by omega
      by_cases hq : uAt l k = sep
      · have HC := Lib.hid (HR.out.2.1.hit (by rw [HU.out.1]; exact hlt) hq)
        rw [hq] at c1
        have hcv := conv_piece HU'.out fr k (c - fr) hfr hk
        have own1 := HR.out.1
        have HB := Lib.hid HR.out.2.2
        clear hq HR
        go_wp2_with (at_builtin; refine wpList_append_own _ rfl _ _ 35 rfl w.heap.size 9 i0 (.string ⟨#[]⟩) 1 16 Tryz.underlying35 hi0 hz0 hz1 hz2 rfl (by decide) _ _ _ rfl (own1.alloc _) ⟨wr.heap.size, 0, none⟩ 1 1 [.string _] rfl rfl one_str (one_oneStr _) (by unfold maxLen; omega) (by omega) (by simp; omega) ?_)
        intro v4 w4 own4 hgrow4 _
        have HR4 : Hid (w4.ownsRow w.heap.size 9 1 v4 (ps ++ [(l.drop fr).take (k - fr)]).length (strsV (ps ++ [(l.drop fr).take (k - fr)])) ∧ CutAt sep l (k + 1) (k + 1) (ps ++ [(l.drop fr).take (k - fr)]) ∧ Below w.heap.size w w4) := by
          refine ⟨?_, HC.out, (HB.out.alloc hwz _).grown hgrow4 (by simp; omega) (fun k hk => (own1.lt k hk).1)⟩
          rw [List.length_append, strsV, List.map_append]; exact own4
        clear own1 own4 hgrow4 HC HB hcv
        go_wp2
        go_roundw
        case rel => exact ⟨k + 1, k + 1, _, by omega, by omega, by simp; omega, by go_num, by go_num, HR4⟩
        case measure => simp [intOf]; omega
      · have HR4 : Hid (wr.ownsRow w.heap.size 9 1 u5 ps.length (strsV ps) ∧ CutAt sep l fr (k + 1) ps ∧ Below w.heap.size w wr) := ⟨HR.out.1, HR.out.2.1.skip (by rw [HU.out.1]; exact hlt) hq, HR.out.2.2⟩
        have hq' : ¬ (uAt l k).toNat = sep.toNat := fun e => hq (UInt8.toNat_inj.1 e)
        clear HR hq
        generalize uAt l k = y at *
        go_wp2
        go_roundw
        case rel => exact ⟨k + 1, fr, ps, by omega, by omega, by omega, rfl, by go_num, HR4⟩
        case measure => simp [intOf]; omega
    · obtain rfl : k = n := by omega
      have HS : Hid (cutL sep l = ps ++ [(l.drop fr).take (k - fr)]) := by
        show _ = _
        have h := HR.out.2.1
        have hl := HU.out.1
        rw [← hl] at h ⊢
        exact h.stop
      by_cases hcf : c = fr
      · obtain rfl : k = c := by omega
        subst hcf
        have hcv := conv_none wr ⟨g, 0, none⟩ 0
        have e0 : (l.drop k).take (k - k) = [] := by rw [Nat.sub_self]; rfl
        rw [e0] at HS
        clear e0
        have own1 := HR.out.1
        have HB := Lib.hid HR.out.2.2
        clear HR
        go_wp2_with (at_builtin; refine wpList_append_own _ rfl _ _ 35 rfl w.heap.size 9 i0 (.string ⟨#[]⟩) 1 16 Tryz.underlying35 hi0 hz0 hz1 hz2 rfl (by decide) _ _ _ rfl (own1.alloc _) ⟨wr.heap.size, 0, none⟩ 1 1 [.string _] rfl rfl one_str (one_oneStr _) (by unfold maxLen; omega) (by omega) (by simp; omega) ?_)
        intro v4 w4 own4 hgrow4 _
        have HR4 : Hid (w4.ownsRow w.heap.size 9 1 v4 (cutL sep l).length (strsV (cutL sep l)) ∧ Below w.heap.size w w4) := by
          refine ⟨?_, (HB.out.alloc hwz _).grown hgrow4 (by simp; omega) (fun k hk => (own1.lt k hk).1)⟩
          rw [HS.out, List.length_append, strsV, List.map_append]; exact own4
        clear own1 own4 hgrow4 HB hcv
        go_wp2
        go_ret
        exact ⟨_, rfl, HR4.out⟩
      · have hcv := conv_piece HU'.out fr k (c - fr) hfr hk
        have own1 := HR.out.1
        have HB := Lib.hid HR.out.2.2
        clear HR
        go_wp2_with (at_builtin; refine wpList_append_own _ rfl _ _ 35 rfl w.heap.size 9 i0 (.string ⟨#[]⟩) 1 16 Tryz.underlying35 hi0 hz0 hz1 hz2 rfl (by decide) _ _ _ rfl (own1.alloc _) ⟨wr.heap.size, 0, none⟩ 1 1 [.string _] rfl rfl one_str (one_oneStr _) (by unfold maxLen; omega) (by omega) (by simp; omega) ?_)
        intro v4 w4 own4 hgrow4 _
        have HR4 : Hid (w4.ownsRow w.heap.size 9 1 v4 (cutL sep l).length (strsV (cutL sep l)) ∧ Below w.heap.size w w4) := by
          refine ⟨?_, (HB.out.alloc hwz _).grown hgrow4 (by simp; omega) (fun k hk => (own1.lt k hk).1)⟩
          rw [HS.out, List.length_append, strsV, List.map_append]; exact own4
        clear own1 own4 hgrow4 HB hcv
        go_wp2
        go_ret
        exact ⟨_, rfl, HR4.out⟩
end Go.Proofs.YtfgfdjcgfbodfaaGreatDoor
