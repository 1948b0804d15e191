/-
  EncU, EncL.
-/
import Derived.Test.YtkkammbfomiofaaDoorEncT
/-
  EncodeTable, the program's.
-/
namespace Go.Proofs.YtkkammbfomiofaaDoor
open Go.RowKit
set_option linter.unusedSimpArgs false
set_option linter.unusedVariables false

/-- Widths and values as cells. -/
def nCells (ns : List (Int × Int)) : List Value := ns.flatMap fun x => [.int .i64 x.1, .int .i64 x.2]
theorem nCells_len (ns : List (Int × Int)) : (nCells ns).length = ns.length * 2 := by
  induction ns with
  | nil => rfl
  | cons x ns ih => simp only [nCells, List.flatMap_cons, List.length_append, List.length_cons, List.length_nil] at ih ⊢; omega
theorem nCells_append (xs ys : List (Int × Int)) : nCells (xs ++ ys) = nCells xs ++ nCells ys := by simp [nCells]
theorem nCells_at (ns : List (Int × Int)) : ∀ i, i < ns.length → (nCells ns)[i * 2]? = some (.int .i64 (nW ns i)) ∧ (nCells ns)[i * 2 + 1]? = some (.int .i64 (nV ns i)) := by
  induction ns with
  | nil => intro i h; simp at h
  | cons x ns ih =>
    intro i h
    cases i with
    | zero => simp [nCells, nW, nV]
    | succ i =>
      have := ih i (by simpa using h)
      have e1 : (i + 1) * 2 = i * 2 + 1 + 1 := by omega
      have e2 : (i + 1) * 2 + 1 = i * 2 + 1 + 1 + 1 := by omega
      rw [e1]
      simpa [nCells, nW, nV] using this

theorem owns_nread {w : World} {B n : Nat} {s : Value} {ns : List (Int × Int)} (h : w.ownsRow B 68 2 s n (nCells ns)) : ∃ a c, s = .slice a n c ∧ NRead w a n ns := by
  have hl : ns.length = n := by have := h.1; rw [nCells_len] at this; omega
  have h' := h
  rcases h.2 with ⟨rfl, h0⟩ | ⟨g, cap, cur, rfl, hB, hg, hc, hm, hsz, ht⟩
  · exact ⟨none, 0, by rw [h0], hl, .inl h0⟩
  · refine ⟨some ⟨g, 0, none⟩, cap, rfl, hl, .inr ⟨g, 0, rfl, fun i hi => ?_⟩⟩
    obtain ⟨q1, q2⟩ := nCells_at ns i (by omega)
    rw [Nat.zero_add, h'.cellAt _ (by omega), h'.cellAt _ (by omega)]
    exact ⟨q1, q2⟩

theorem info68 : (Tryd.prog.info? 68).map (fun i => (i.zero, i.size, i.bytes)) = some (some (.agg #[.int .i64 0, .int .i64 0]), 2, 16) := by kernel_rfl

theorem two_new {w : World} {x y : Value} {t : TypeId} : ∀ j u, [x, y][j]? = some u → (w.alloc (.cells #[x, y] t)).cell? ((⟨w.heap.size, 0, none⟩ : Addr).add j) = some u := by
  intro j u hj
  match j, hj with
  | 0, hj => simp at hj; subst hj; simp [Addr.add]
  | 1, hj => simp at hj; subst hj; simp [Addr.add]
theorem two_i64 (x y : Int) : ∀ u ∈ [Value.int .i64 x, Value.int .i64 y], u.oneCell' = true := by intro u hu; simp at hu; rcases hu with rfl | rfl <;> rfl

/-- The numbers of a table. -/
def eNums (es : List (Int × Bool)) : List (Int × Int) := es.map fun e => (2, eNum e.1 e.2)
theorem eNums_succ (es : List (Int × Bool)) (k : Nat) (h : k < es.length) : eNums (es.take (k + 1)) = eNums (es.take k) ++ [(2, eNum (eA es k) (eI es k))] := by
  rw [List.take_succ_eq_append_getElem h, e_at es k h]
  simp only [eNums, List.map_append, List.map_cons, List.map_nil]
theorem eNums_put (es : List (Int × Bool)) : putL (eNums es) = eBytes es := by
  simp only [putL, eNums, eBytes, List.flatMap_map]
  rfl
theorem eNums_ok (es : List (Int × Bool)) (h : eAll es = true) : NOk es.length (eNums es) := by
  intro i hi
  have e : (eNums es)[i]? = some (2, eNum es[i].1 es[i].2) := by simp [eNums, hi]
  simp only [nW, nV, e, Option.getD_some]
  have hv : veB es[i].1 es[i].2 = true := by
    have := List.all_eq_true.1 h es[i] (List.getElem_mem hi)
    exact this
  obtain ⟨v1, v2⟩ := veB_bounds hv
  obtain ⟨v3, v4⟩ := eNum_bounds (b := es[i].2) v1 v2
  exact ⟨⟨by decide, by decide⟩, v3, by omega⟩

theorem owns_base {w : World} {B B' e sz n : Nat} {s : Value} {xs : List Value} (h : w.ownsRow B e sz s n xs) (hB : B' ≤ B) : w.ownsRow B' e sz s n xs := by
  refine ⟨h.1, h.2.imp id ?_⟩
  rintro ⟨g, cap, cur, e1, hg, rest⟩
  exact ⟨g, cap, cur, e1, by omega, rest⟩

set_option maxHeartbeats 4000000 in
set_option maxRecDepth 100000 in
theorem encodeTable_impl (a : Option Addr) (n ca : Nat) (es : List (Int × Bool)) (w : World) (ha : ERead w a n es) (hn : n ≤ 2097152) :
    Calls Tryd.prog 9 #[.slice a n ca] w fun e w' => ∃ s, e = .returned s ∧ w'.ownsRow w.heap.size 5 1 s (encT es).length (u8s (encT es)) ∧ Below w.heap.size w w' := by
  obtain ⟨i2, ki, kz0, kz1, kz2⟩ := info_parts info68
  obtain ⟨hx, ha⟩ := ha
  by_cases hbig : 1024 < n
  · have HF : Hid (encT es = []) := by show _ = _; unfold encT; rw [if_neg (by omega)]
    have hb' : 1024 < (n : Int) := by omega
    clear ha
    go_enter Tryd.func9, Tryd.ntmps9
    go_wp2
    go_ret
    exact ⟨_, rfl, by rw [HF.out]; exact empty_owned w, (Below.refl _ _).alloc (Nat.le_refl _) _⟩
  have hb' : decide (1024 < (n : Int)) = false := by simp; omega
  have HX : Hid (es.length = n) := hx
  clear hx
  rcases ha with h0 | ⟨g, off, rfl, hc⟩
  · subst h0
    have he : es = [] := List.length_eq_zero_iff.1 HX.out
    subst he
    go_enter Tryd.func9, Tryd.ntmps9
    go_wp2_with (at_make; refine wpList_make_own _ rfl _ _ 65 rfl w.heap.size 68 i2 (.agg #[.int .i64 0, .int .i64 0]) 2 Tryd.underlying65 ki kz0 kz1 .i64 .i64 _ 0 rfl rfl rfl ?c1 ?c2 ?c3 ?_)
    case c1 => rw [kz2]; omega
    case c2 => unfold maxLen; omega
    case c3 => exact Nat.le_refl _
    intro w1 hown hgrow
    have hbel := Below.of_grown hgrow
    clear hown hgrow
    go_wp2
    refine wp_loop_rounds 1 ?_
    rw [rounds_succ]
    go_wp2_with fail
    refine (put_any _ 0 _ [] _ ⟨rfl, .inl rfl⟩ (fun i hi => absurd hi (by omega)) (by omega)).mono ?_
    rintro e w2 ⟨s, rfl, hown2, hb2⟩
    have hfin : w2.ownsRow w.heap.size 5 1 s (encT []).length (u8s (encT [])) ∧ Below w.heap.size w w2 :=
      ⟨owns_base hown2 hbel.size, hbel.trans (hb2.mono hbel.size)⟩
    clear hown2 hb2
    go_wp2
    go_ret
    exact ⟨_, rfl, hfin.1, hfin.2⟩
  · go_enter Tryd.func9, Tryd.ntmps9
    go_wp2_with (at_make; refine wpList_make_own _ rfl _ _ 65 rfl w.heap.size 68 i2 (.agg #[.int .i64 0, .int .i64 0]) 2 Tryd.underlying65 ki kz0 kz1 .i64 .i64 _ n rfl rfl rfl ?c1 ?c2 ?c3 ?_)
    case c1 => rw [kz2]; omega
    case c2 => unfold maxLen; omega
    case c3 => exact Nat.le_refl _
    intro w1 hown0 hgrow
    have hbel0 := Below.of_grown hgrow
    clear hgrow
    go_wp2
    go_loopw [3, 15] (fun s i wr => ∃ k : Nat, k ≤ n ∧ i = .int .i64 k ∧ eAll (es.take k) = true ∧ wr.ownsRow w.heap.size 68 2 s k (nCells (eNums (es.take k))) ∧ Below w.heap.size w wr) (fun _ i _ => n - (intOf i).toNat)
    case atStart => exact ⟨0, Nat.zero_le _, rfl, rfl, hown0, hbel0⟩
    case round =>
      obtain ⟨k, hk, rfl, hall, hown, hbel⟩ := hrel
      have HA : Hid (eAll (es.take k) = true) := hall
      clear hall
      by_cases hlt : k < n
      · have hkl : k < es.length := by rw [HX.out]; exact hlt
        obtain ⟨c1, c2⟩ := hc k hlt
        rw [← hbel.cell (World.block_lt_of_cell? w _ c1)] at c1
        rw [← hbel.cell (World.block_lt_of_cell? w _ c2)] at c2
        have hgl := World.block_lt_of_cell? wr _ c1
        simp only at hgl
        have hsz := hbel.size
        clear hc
        cases hv : veB (eA es k) (eI es k)
        · have HF : Hid (encT es = []) := by show _ = _; unfold encT; rw [if_neg (by rw [eAll_no es k hkl hv]; simp)]
          clear hkl hown
          go_wp2_with fail
          refine (validEntry_impl _ _ _).mono ?_
          rintro e w1 ⟨rfl, hb1⟩
          rw [hv]
          have hb2 : Below w.heap.size w w1 := (hbel.alloc hsz _).trans (hb1.mono (by simp; omega))
          go_wp2
          go_ret
          refine ⟨_, rfl, ?_, hb2.alloc hb2.size _⟩
          rw [HF.out]
          exact World.ownsRow_made w1 #[] 0 hb2.size (Nat.zero_le _) rfl
        · have HS : Hid (eAll (es.take (k + 1)) = true) := by show _ = true; rw [eAll_succ es k hkl, HA.out, hv]; rfl
          have HE : Hid (nCells (eNums (es.take (k + 1))) = nCells (eNums (es.take k)) ++ [.int .i64 2, .int .i64 (eNum (eA es k) (eI es k))]) := by
            show _ = _
            rw [eNums_succ es k hkl, nCells_append]; rfl
          obtain ⟨v1, v2⟩ := veB_bounds hv
          clear hkl
          go_wp2_with fail
          refine (validEntry_impl _ _ _).mono ?_
          rintro e w2 ⟨rfl, hb1⟩
          rw [hv]
          obtain ⟨p1, p2, _, _⟩ := two_cellsB ((hb1.block wr.heap.size (by simp)).trans (heap_alloc_new wr _))
          have hb2 : Below w.heap.size w w2 := (hbel.alloc hsz _).trans (hb1.mono (by simp; omega))
          have hown1 := owns_below (hown.alloc _) hb1
          have hs2 := hb2.size
          clear hb1 c1 c2 hown hbel hgl
          go_wp2_with fail
          refine (entryNumber_any _ _ _ v1 v2).mono ?_
          rintro e w3 ⟨rfl, hb3⟩
          have hown3 := owns_below hown1 hb3
          have hb4 : Below w.heap.size w w3 := hb2.trans (hb3.mono hb2.size)
          have hs4 := hb4.size
          generalize eNum (eA es k) (eI es k) = x at *
          clear hb3 hown1 p1 p2
          go_wp2_with (at_builtin; refine wpList_append_own _ rfl _ _ 65 rfl w.heap.size 68 i2 (.agg #[.int .i64 0, .int .i64 0]) 2 16 Tryd.underlying65 ki kz0 kz1 kz2 rfl (by decide) _ _ _ rfl (hown3.alloc _) ⟨w3.heap.size, 0, none⟩ 1 1 [.int .i64 2, .int .i64 x] rfl rfl two_new (two_i64 _ _) (by unfold maxLen; omega) (by omega) (by simp; omega) ?_)
          intro s' w4 hown5 hgrow _
          have hb5 : Below w.heap.size w w4 := (hb4.alloc hs4 _).grown hgrow (by simp; omega) (fun k hk => (hown3.lt k hk).1)
          have hown6 : w4.ownsRow w.heap.size 68 2 s' (k + 1) (nCells (eNums (es.take (k + 1)))) := by rw [HE.out]; exact hown5
          clear hown5 hown3 hgrow
          go_wp2
          go_roundw
          case rel => exact ⟨k + 1, by omega, by go_num, HS.out, hown6, hb5⟩
          case measure => simp [intOf]; omega
      · have hkm : k = n := by omega
        subst hkm
        have hT : es.take k = es := List.take_of_length_le (by rw [HX.out]; exact Nat.le_refl _)
        have HF : Hid (encT es = eBytes es) := by
          show _ = _
          have := HA.out
          rw [hT] at this
          unfold encT; rw [if_pos ⟨by rw [HX.out]; omega, this⟩]
        have hok : NOk k (eNums es) := by
          have := HA.out
          rw [hT] at this
          have h2 := eNums_ok es this
          rw [HX.out] at h2
          exact h2
        rw [hT] at hown
        obtain ⟨aa, cc, hs, hnr⟩ := owns_nread hown
        clear hc hT hown
        rw [hs]
        clear hs
        go_wp2_with fail
        refine (put_any _ _ _ (eNums es) _ hnr hok (by omega)).mono ?_
        rintro e w2 ⟨s, rfl, hown2, hb2⟩
        rw [eNums_put] at hown2
        have hfin : w2.ownsRow w.heap.size 5 1 s (encT es).length (u8s (encT es)) ∧ Below w.heap.size w w2 :=
          ⟨by rw [HF.out]; exact owns_base hown2 hbel.size, hbel.trans (hb2.mono hbel.size)⟩
        clear hown2 hb2
        go_wp2
        go_ret
        exact ⟨_, rfl, hfin.1, hfin.2⟩
end Go.Proofs.YtkkammbfomiofaaDoor

/-
  FnExactEncodeTable: the law's walk.
-/
namespace Go.Proofs.YtkkammbfomiofaaDoor
open Go.RowKit
set_option linter.unusedSimpArgs false
set_option linter.unusedVariables false

theorem encT_len (es : List (Int × Bool)) : (encT es).length ≤ 2048 := by
  unfold encT
  split
  · rename_i h; rw [eBytes_len]; omega
  · simp

theorem Row.drewN {k : IntKind} {G : Nat → Prop} {w : World} {a : Option Addr} {n : Nat} {xs : List Int} (h : Row k G w a n xs) (d : Nat) : Row k G (w.drewN d) a n xs := h
theorem EOwn.drewN {G : Nat → Prop} {w : World} {a : Option Addr} {m : Nat} {es : List (Int × Bool)} (h : EOwn G w a m es) (d : Nat) : EOwn G (w.drewN d) a m es := h
theorem below_dN {w : World} (d : Nat) : Below w.heap.size w (w.drewN d) := below_drewN (Below.refl _ _) d

end Go.Proofs.YtkkammbfomiofaaDoor
