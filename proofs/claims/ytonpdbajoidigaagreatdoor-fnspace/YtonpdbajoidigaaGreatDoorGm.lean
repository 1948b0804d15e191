/-
  EncU, Tb, EncL, Ts, Tl, Inv, Inb.
-/
import Derived.Test.YtonpdbajoidigaaGreatDoorGl
import Derived.Deep.QuietTactic
import Derived.BigQuiet
/-
  EncodeTable, the program's.
-/
namespace Go.Proofs.YtonpdbajoidigaaGreatDoor
open Go.RowKit
set_option linter.unusedSimpArgs false
set_option linter.unusedVariables false

/-- Widths and values as cells. -/
def nCells (ns : List (Int × Int)) : List Value := ns.flatMap fun x => [.int .i64 x.1, .int .i64 x.2]
theorem nCells_len (ns : List (Int × Int)) : (nCells ns).length = ns.length * 2 := by
  induction ns with
  | nil => rfl
  | cons x ns ih => simp only [nCells, List.flatMap_cons, List.length_append, List.length_cons, List.length_nil] at ih ⊢; omega
theorem nCells_append (xs ys : List (Int × Int)) : nCells (xs ++ ys) = nCells xs ++ nCells ys := by simp [nCells]
theorem nCells_at (ns : List (Int × Int)) : ∀ i, i < ns.length → (nCells ns)[i * 2]? = some (.int .i64 (nW ns i)) ∧ (nCells ns)[i * 2 + 1]? = some (.int .i64 (nV ns i)) := by
  induction ns with
  | nil => intro i h; simp at h
  | cons x ns ih =>
    intro i h
    cases i with
    | zero => simp [nCells, nW, nV]
    | succ i =>
      have := ih i (by simpa using h)
      have e1 : (i + 1) * 2 = i * 2 + 1 + 1 := by omega
      have e2 : (i + 1) * 2 + 1 = i * 2 + 1 + 1 + 1 := by omega
      rw [e1]
      simpa [nCells, nW, nV] using this

theorem owns_nread {w : World} {B n : Nat} {s : Value} {ns : List (Int × Int)} (h : w.ownsRow B 100 2 s n (nCells ns)) : ∃ a c, s = .slice a n c ∧ NRead w a n ns := by
  have hl : ns.length = n := by have := h.1; rw [nCells_len] at this; omega
  have h' := h
  rcases h.2 with ⟨rfl, h0⟩ | ⟨g, cap, cur, rfl, hB, hg, hc, hm, hsz, ht⟩
  · exact ⟨none, 0, by rw [h0], hl, .inl h0⟩
  · refine ⟨some ⟨g, 0, none⟩, cap, rfl, hl, .inr ⟨g, 0, rfl, fun i hi => ?_⟩⟩
    obtain ⟨q1, q2⟩ := nCells_at ns i (by omega)
    rw [Nat.zero_add, h'.cellAt _ (by omega), h'.cellAt _ (by omega)]
    exact ⟨q1, q2⟩

theorem info100 : (Tryz.prog.info? 100).map (fun i => (i.zero, i.size, i.bytes)) = some (some (.agg #[.int .i64 0, .int .i64 0]), 2, 16) := by kernel_rfl

theorem two_newE {w : World} {x y : Value} {t : TypeId} : ∀ j u, [x, y][j]? = some u → (w.alloc (.cells #[x, y] t)).cell? ((⟨w.heap.size, 0, none⟩ : Addr).add j) = some u := by
  intro j u hj
  match j, hj with
  | 0, hj => simp at hj; subst hj; simp [Addr.add]
  | 1, hj => simp at hj; subst hj; simp [Addr.add]
theorem two_i64 (x y : Int) : ∀ u ∈ [Value.int .i64 x, Value.int .i64 y], u.oneCell' = true := by intro u hu; simp at hu; rcases hu with rfl | rfl <;> rfl

/-- The numbers of a table. -/
def eNums (es : List (Int × Bool)) : List (Int × Int) := es.map fun e => (2, eNum e.1 e.2)
theorem eNums_succ (es : List (Int × Bool)) (k : Nat) (h : k < es.length) : eNums (es.take (k + 1)) = eNums (es.take k) ++ [(2, eNum (eA es k) (eI es k))] := by
  rw [List.take_succ_eq_append_getElem h, e_at es k h]
  simp only [eNums, List.map_append, List.map_cons, List.map_nil]
theorem eNums_put (es : List (Int × Bool)) : putL (eNums es) = eBytes es := by
  simp only [putL, eNums, eBytes, List.flatMap_map]
  rfl
theorem eNums_ok (es : List (Int × Bool)) (h : eAll es = true) : NOk es.length (eNums es) := by
  intro i hi
  have e : (eNums es)[i]? = some (2, eNum es[i].1 es[i].2) := by simp [eNums, hi]
  simp only [nW, nV, e, Option.getD_some]
  have hv : veB es[i].1 es[i].2 = true := by
    have := List.all_eq_true.1 h es[i] (List.getElem_mem hi)
    exact this
  obtain ⟨v1, v2⟩ := veB_bounds hv
  obtain ⟨v3, v4⟩ := eNum_bounds (b := es[i].2) v1 v2
  exact ⟨⟨by decide, by decide⟩, v3, by omega⟩

theorem owns_base {w : World} {B B' e sz n : Nat} {s : Value} {xs : List Value} (h : w.ownsRow B e sz s n xs) (hB : B' ≤ B) : w.ownsRow B' e sz s n xs := by
  refine ⟨h.1, h.2.imp id ?_⟩
  rintro ⟨g, cap, cur, e1, hg, rest⟩
  exact ⟨g, cap, cur, e1, by omega, rest⟩

set_option maxHeartbeats 4000000 in
set_option maxRecDepth 100000 in
theorem encodeTable_impl (a : Option Addr) (n ca : Nat) (es : List (Int × Bool)) (w : World) (ha : ERead w a n es) (hn : n ≤ 2097152) :
    Calls Tryz.prog 91 #[.slice a n ca] w fun e w' => ∃ s, e = .returned s ∧ w'.ownsRow w.heap.size 5 1 s (encT es).length (u8s (encT es)) ∧ Below w.heap.size w w' := by
  obtain ⟨i2, ki, kz0, kz1, kz2⟩ := info_parts info100
  obtain ⟨hx, ha⟩ := ha
  by_cases hbig : 1024 < n
  · have HF : Hid (encT es = []) := by show _ = _; unfold encT; rw [if_neg (by omega)]
    have hb' : 1024 < (n : Int) := by omega
    clear ha
    go_enter Tryz.func91, Tryz.ntmps91
    go_wp2
    go_ret
    exact ⟨_, rfl, by rw [HF.out]; exact empty_owned w, (Below.refl _ _).alloc (Nat.le_refl _) _⟩
  have hb' : decide (1024 < (n : Int)) = false := by simp; omega
  have HX : Hid (es.length = n) := hx
  clear hx
  rcases ha with h0 | ⟨g, off, rfl, hc⟩
  · subst h0
    have he : es = [] := List.length_eq_zero_iff.1 HX.out
    subst he
    go_enter Tryz.func91, Tryz.ntmps91
    go_wp2_with (at_make; refine wpList_make_own _ rfl _ _ 133 rfl w.heap.size 100 i2 (.agg #[.int .i64 0, .int .i64 0]) 2 Tryz.underlying133 ki kz0 kz1 .i64 .i64 _ 0 rfl rfl rfl ?c1 ?c2 ?c3 ?_)
    case c1 => rw [kz2]; omega
    case c2 => unfold maxLen; omega
    case c3 => exact Nat.le_refl _
    intro w1 hown hgrow
    have hbel := Below.of_grown hgrow
    clear hown hgrow
    go_wp2
    refine wp_loop_rounds 1 ?_
    rw [rounds_succ]
    go_wp2_with fail
    refine (put_any _ 0 _ [] _ ⟨rfl, .inl rfl⟩ (fun i hi => absurd hi (by omega)) (by omega)).mono ?_
    rintro e w2 ⟨s, rfl, hown2, hb2⟩
    have hfin : w2.ownsRow w.heap.size 5 1 s (encT []).length (u8s (encT [])) ∧ Below w.heap.size w w2 :=
      ⟨owns_base hown2 hbel.size, hbel.trans (hb2.mono hbel.size)⟩
    clear hown2 hb2
    go_wp2
    go_ret
    exact ⟨_, rfl, hfin.1, hfin.2⟩
  · go_enter Tryz.func91, Tryz.ntmps91
    go_wp2_with (at_make; refine wpList_make_own _ rfl _ _ 133 rfl w.heap.size 100 i2 (.agg #[.int .i64 0, .int .i64 0]) 2 Tryz.underlying133 ki kz0 kz1 .i64 .i64 _ n rfl rfl rfl ?c1 ?c2 ?c3 ?_)
    case c1 => rw [kz2]; omega
    case c2 => unfold maxLen; omega
    case c3 => exact Nat.le_refl _
    intro w1 hown0 hgrow
    have hbel0 := Below.of_grown hgrow
    clear hgrow
    go_wp2
    go_loopw [3, 15] (fun s i wr => ∃ k : Nat, k ≤ n ∧ i = .int .i64 k ∧ eAll (es.take k) = true ∧ wr.ownsRow w.heap.size 100 2 s k (nCells (eNums (es.take k))) ∧ Below w.heap.size w wr) (fun _ i _ => n - (intOf i).toNat)
    case atStart => exact ⟨0, Nat.zero_le _, rfl, rfl, hown0, hbel0⟩
    case round =>
      obtain ⟨k, hk, rfl, hall, hown, hbel⟩ := hrel
      have HA : Hid (eAll (es.take k) = true) := hall
      clear hall
      by_cases hlt : k < n
      · have hkl : k < es.length := by rw [HX.out]; exact hlt
        obtain ⟨c1, c2⟩ := hc k hlt
        rw [← hbel.cell (World.block_lt_of_cell? w _ c1)] at c1
        rw [← hbel.cell (World.block_lt_of_cell? w _ c2)] at c2
        have hgl := World.block_lt_of_cell? wr _ c1
        simp only at hgl
        have hsz := hbel.size
        clear hc
        cases hv : veB (eA es k) (eI es k)
        · have HF : Hid (encT es = []) := by show _ = _; unfold encT; rw [if_neg (by rw [eAll_no es k hkl hv]; simp)]
          clear hkl hown
          go_wp2_with fail
          refine (validEntry_impl _ _ _).mono ?_
          rintro e w1 ⟨rfl, hb1⟩
          rw [hv]
          have hb2 : Below w.heap.size w w1 := (hbel.alloc hsz _).trans (hb1.mono (by simp; omega))
          go_wp2
          go_ret
          refine ⟨_, rfl, ?_, hb2.alloc hb2.size _⟩
          rw [HF.out]
          exact World.ownsRow_made w1 #[] 0 hb2.size (Nat.zero_le _) rfl
        · have HS : Hid (eAll (es.take (k + 1)) = true) := by show _ = true; rw [eAll_succ es k hkl, HA.out, hv]; rfl
          have HE : Hid (nCells (eNums (es.take (k + 1))) = nCells (eNums (es.take k)) ++ [.int .i64 2, .int .i64 (eNum (eA es k) (eI es k))]) := by
            show _ = _
            rw [eNums_succ es k hkl, nCells_append]; rfl
          obtain ⟨v1, v2⟩ := veB_bounds hv
          clear hkl
          go_wp2_with fail
          refine (validEntry_impl _ _ _).mono ?_
          rintro e w2 ⟨rfl, hb1⟩
          rw [hv]
          obtain ⟨p1, p2, _, _⟩ := two_cellsB ((hb1.block wr.heap.size (by simp)).trans (heap_alloc_new wr _))
          have hb2 : Below w.heap.size w w2 := (hbel.alloc hsz _).trans (hb1.mono (by simp; omega))
          have hown1 := owns_below (hown.alloc _) hb1
          have hs2 := hb2.size
          clear hb1 c1 c2 hown hbel hgl
          go_wp2_with fail
          refine (entryNumber_any _ _ _ v1 v2).mono ?_
          rintro e w3 ⟨rfl, hb3⟩
          have hown3 := owns_below hown1 hb3
          have hb4 : Below w.heap.size w w3 := hb2.trans (hb3.mono hb2.size)
          have hs4 := hb4.size
          generalize eNum (eA es k) (eI es k) = x at *
          clear hb3 hown1 p1 p2
          go_wp2_with (at_builtin; refine wpList_append_own _ rfl _ _ 133 rfl w.heap.size 100 i2 (.agg #[.int .i64 0, .int .i64 0]) 2 16 Tryz.underlying133 ki kz0 kz1 kz2 rfl (by decide) _ _ _ rfl (hown3.alloc _) ⟨w3.heap.size, 0, none⟩ 1 1 [.int .i64 2, .int .i64 x] rfl rfl two_newE (two_i64 _ _) (by unfold maxLen; omega) (by omega) (by simp; omega) ?_)
          intro s' w4 hown5 hgrow _
          have hb5 : Below w.heap.size w w4 := (hb4.alloc hs4 _).grown hgrow (by simp; omega) (fun k hk => (hown3.lt k hk).1)
          have hown6 : w4.ownsRow w.heap.size 100 2 s' (k + 1) (nCells (eNums (es.take (k + 1)))) := by rw [HE.out]; exact hown5
          clear hown5 hown3 hgrow
          go_wp2
          go_roundw
          case rel => exact ⟨k + 1, by omega, by go_num, HS.out, hown6, hb5⟩
          case measure => simp [intOf]; omega
      · have hkm : k = n := by omega
        subst hkm
        have hT : es.take k = es := List.take_of_length_le (by rw [HX.out]; exact Nat.le_refl _)
        have HF : Hid (encT es = eBytes es) := by
          show _ = _
          have := HA.out
          rw [hT] at this
          unfold encT; rw [if_pos ⟨by rw [HX.out]; omega, this⟩]
        have hok : NOk k (eNums es) := by
          have := HA.out
          rw [hT] at this
          have h2 := eNums_ok es this
          rw [HX.out] at h2
          exact h2
        rw [hT] at hown
        obtain ⟨aa, cc, hs, hnr⟩ := owns_nread hown
        clear hc hT hown
        rw [hs]
        clear hs
        go_wp2_with fail
        refine (put_any _ _ _ (eNums es) _ hnr hok (by omega)).mono ?_
        rintro e w2 ⟨s, rfl, hown2, hb2⟩
        rw [eNums_put] at hown2
        have hfin : w2.ownsRow w.heap.size 5 1 s (encT es).length (u8s (encT es)) ∧ Below w.heap.size w w2 :=
          ⟨by rw [HF.out]; exact owns_base hown2 hbel.size, hbel.trans (hb2.mono hbel.size)⟩
        clear hown2 hb2
        go_wp2
        go_ret
        exact ⟨_, rfl, hfin.1, hfin.2⟩
end Go.Proofs.YtonpdbajoidigaaGreatDoor

/-
  The program's DecodeTable.
-/
namespace Go.Proofs.YtonpdbajoidigaaGreatDoor
open Go.RowKit
set_option linter.unusedSimpArgs false
set_option linter.unusedVariables false

/-- The entry at place i; the first k; their cells. -/
def entI (xs : List Int) (i : Nat) : Int × Bool := (ent2 (xs.drop (2 * i)) % 32768, decide (32768 ≤ ent2 (xs.drop (2 * i))))
def ents (xs : List Int) (k : Nat) : List (Int × Bool) := (List.range k).map (entI xs)
def eC (es : List (Int × Bool)) : List Value := es.flatMap fun e => [.int .i64 e.1, .bool e.2]
theorem eC_succ (xs : List Int) (k : Nat) : eC (ents xs (k + 1)) = eC (ents xs k) ++ [.int .i64 (entI xs k).1, .bool (entI xs k).2] := by
  simp only [ents, eC, List.range_succ, List.map_append, List.flatMap_append, List.map_cons, List.map_nil, List.flatMap_cons, List.flatMap_nil, List.append_nil]
def okI (xs : List Int) (i : Nat) : Bool := veB (entI xs i).1 (entI xs i).2
def tabB (xs : List Int) : Bool := decide (xs.length ≤ 2048) && (decide (xs.length % 2 = 0) && (List.range (xs.length / 2)).all (okI xs))
theorem tab_long {xs : List Int} (h : 2048 < xs.length) : tabB xs = false := by
  unfold tabB; rw [decide_eq_false (by omega)]; rfl
theorem tab_odd {xs : List Int} (h : xs.length % 2 = 1) : tabB xs = false := by
  unfold tabB; rw [decide_eq_false (p := xs.length % 2 = 0) (by omega)]; simp
theorem tab_bad {xs : List Int} (k : Nat) (hk : 2 * k + 2 ≤ xs.length) (h : okI xs k = false) : tabB xs = false := by
  unfold tabB
  have : (List.range (xs.length / 2)).all (okI xs) = false := by
    rw [List.all_eq_false]
    exact ⟨k, by simp; omega, by rw [h]; simp⟩
  rw [this]; simp
theorem tab_good {xs : List Int} (hl : xs.length ≤ 2048) (k : Nat) (hk : xs.length = 2 * k) (h : ∀ i, i < k → okI xs i = true) : tabB xs = true := by
  unfold tabB
  have e : xs.length / 2 = k := by omega
  rw [e, decide_eq_true hl, decide_eq_true (by omega)]
  simp only [Bool.true_and, List.all_eq_true, List.mem_range]
  exact h
theorem cells2t {w : World} {g : Nat} {x0 x1 : Value} (k1 : w.heap[g]? = some (.cells #[x0, x1] 141 (0, 0))) :
    (w.cell? ⟨g, 0, none⟩ = some x0 ∧ w.cell? ⟨g, 1, none⟩ = some x1) ∧ w.frozen? ⟨g, 0, none⟩ = false ∧ w.frozen? ⟨g, 1, none⟩ = false :=
  ⟨⟨by rw [cell_of_row w g 0 _ _ _ k1]; rfl, by rw [cell_of_row w g 1 _ _ _ k1]; rfl⟩, frozen_of_row _ _ _ _ _ k1, frozen_of_row _ _ _ _ _ k1⟩

set_option maxHeartbeats 1000000 in
theorem decodeTable_long (a : Option Addr) (n c : Nat) (w : World) (hn : 2048 < n) :
    Calls Tryz.prog 64 #[.slice a n c] w fun e w' => e = .returned (.agg #[.bool false, .slice none 0 0]) ∧ Below w.heap.size w w' := by
  have hmf : ∀ (fn : Fn) (first cap : Array Value) (w : World), (Instr.makeFunc fn first cap).run Tryz.prog w = .ok (.func fn first cap) w := fun _ _ _ _ => rfl
  go_enter_defers Tryz.func64, Tryz.ntmps64
  go_wp2
  refine leaves_cons (f := 107) (args := #[.pointer (some ⟨w.heap.size, 0, none⟩)]) (by simp) (by simp [go_sem]) ?_
  refine (catch_idleT w.heap.size _).mono ?_
  rintro e u' w'' ⟨rfl, rfl, rfl⟩
  simp [Leaves, settle, results, Tryz.results64, go_sem]
  exact (Below.refl _ _).alloc (Nat.le_refl _) _

theorem owns_heapT {w w' : World} {B n : Nat} {v : Value} {xs : List Value} (h : w.ownsRow B 164 2 v n xs) (hh : ∀ g cur f, B ≤ g → w.heap[g]? = some (.cells cur 164 f) → w'.heap[g]? = w.heap[g]?) : w'.ownsRow B 164 2 v n xs := by
  refine ⟨h.1, h.2.imp id ?_⟩
  rintro ⟨g, cap, cur, e1, hB, hg, rest⟩
  exact ⟨g, cap, cur, e1, hB, (hh g _ _ hB hg).trans hg, rest⟩
theorem owns_baseT {w : World} {B B' n : Nat} {v : Value} {xs : List Value} (h : w.ownsRow B 164 2 v n xs) (hB : B' ≤ B) : w.ownsRow B' 164 2 v n xs := by
  refine ⟨h.1, h.2.imp id ?_⟩
  rintro ⟨g, cap, cur, e1, hg, rest⟩
  exact ⟨g, cap, cur, e1, by omega, rest⟩
theorem owns_neT {w : World} {B n h : Nat} {s : Value} {xs : List Value} {c : Array Value} {t : TypeId} {f : Nat × Nat} (ho : w.ownsRow B 164 2 s n xs) (hh : w.heap[h]? = some (.cells c t f)) (ht : t ≠ 164) : some h ≠ s.ownBlock := by
  rcases ho.2 with ⟨rfl, _⟩ | ⟨g, cap, cur, rfl, _, hg, _⟩
  · simp [Value.ownBlock]
  · simp only [Value.ownBlock, ne_eq, Option.some.injEq]
    intro e
    subst e
    rw [hh] at hg
    injection hg with hg
    injection hg with _ h2 _
    exact ht h2
theorem two_newT {w : World} {x y : Value} {t : TypeId} : ∀ j u, [x, y][j]? = some u → (w.alloc (.cells #[x, y] t)).cell? ((⟨w.heap.size, 0, none⟩ : Addr).add j) = some u := two_newE
theorem two_oneT (x : Int) (y : Bool) : ∀ u ∈ [Value.int .i64 x, Value.bool y], u.oneCell' = true := by intro u hu; simp at hu; rcases hu with rfl | rfl <;> rfl

set_option maxHeartbeats 2000000 in
set_option maxRecDepth 100000 in
theorem decodeTable_short (a : Option Addr) (n c : Nat) (xs : List Int) (w : World) (ha : IRow .u8 w a n xs) (hx : ∀ i, i < n → 0 ≤ xs[i]?.getD 0 ∧ xs[i]?.getD 0 ≤ 255) (hn : n ≤ 2048) (hc : n ≤ c) (hm : c ≤ 9223372036854775807) :
    Calls Tryz.prog 64 #[.slice a n c] w fun e w' => ∃ v, e = .returned (.agg #[.bool (tabB xs), v]) ∧ (tabB xs = true → w'.ownsRow w.heap.size 164 2 v (n / 2) (eC (ents xs (n / 2)))) ∧ (tabB xs = false → v = .slice none 0 0) ∧ Below w.heap.size w w' := by
  have hmf : ∀ (fn : Fn) (first cap : Array Value) (w : World), (Instr.makeFunc fn first cap).run Tryz.prog w = .ok (.func fn first cap) w := fun _ _ _ _ => rfl
  obtain ⟨i2, ki, kz0, kz1, kz2⟩ := info_parts info164
  have HX : Hid (xs.length = n) := ha.1
  have HA : Hid (IRow .u8 w a n xs) := ha
  have HY : Hid (∀ i, i < n → 0 ≤ xs[i]?.getD 0 ∧ xs[i]?.getD 0 ≤ 255) := hx
  clear ha hx
  have s3 : ∀ o1 o2 o3 : Obj, ((((w.alloc o1).alloc o2).alloc o3)).heap[w.heap.size]? = some o1 ∧ ((((w.alloc o1).alloc o2).alloc o3)).heap[w.heap.size + 1]? = some o2 ∧ ((((w.alloc o1).alloc o2).alloc o3)).heap[w.heap.size + 1 + 1]? = some o3 ∧ Below w.heap.size w ((((w.alloc o1).alloc o2).alloc o3)) := fun o1 o2 o3 =>
    have hb := (((Below.refl w.heap.size w).alloc (Nat.le_refl _) o1).alloc (by simp) o2).alloc (by simp; omega) o3
    have q := three_varsI (w := w) (o1 := o1) (o2 := o2) (o3 := o3) (Below.refl _ _)
    ⟨q.1, q.2.1, q.2.2, hb⟩
  go_enter_defers Tryz.func64, Tryz.ntmps64
  go_wp2
  go_loopw [3, 5] (fun s e5 wr => ∃ (k : Nat) (a' : Option Addr) (c' : Nat), 2 * k ≤ n ∧ wr.ownsRow (w.heap.size + 1) 164 2 s k (eC (ents xs k)) ∧ Below w.heap.size w wr ∧ wr.heap[w.heap.size]? = some (.cells #[.bool false, .slice none 0 0] 141 (0, 0)) ∧ wr.heap[w.heap.size + 1 + 1]? = some (.cells #[.slice a' (n - 2 * k) c'] 204 (0, 0)) ∧ n - 2 * k ≤ c' ∧ c' ≤ c ∧ IRow .u8 w a' (n - 2 * k) (xs.drop (2 * k)) ∧ (∀ i, i < k → okI xs i = true)) (fun s _ _ => n - lenOf s)
  case atStart =>
    obtain ⟨b1, b2, b3, b4⟩ := s3 (.cells #[.bool false, .slice none 0 0] 141) (.cells #[] 164) (.cells #[.slice a n c] 204)
    exact ⟨0, a, c, by omega, ⟨rfl, .inr ⟨_, 0, #[], rfl, Nat.le_refl _, b2, Nat.le_refl _, Nat.zero_le _, rfl, rfl⟩⟩, b4, b1, b3, by omega, Nat.le_refl _, by simpa using HA.out, fun i hi => by omega⟩
  case round =>
    obtain ⟨k, a', c', hk, own1, hB1, k1, k3, hc1, hc2, hrow, hok⟩ := hrel
    have l1 := (Array.getElem?_eq_some_iff.1 k1).1
    have l3 := (Array.getElem?_eq_some_iff.1 k3).1
    have s1 := hB1.size
    have t3 : wr.cell? ⟨w.heap.size + 1 + 1, 0, none⟩ = some (.slice a' (n - 2 * k) c') := by rw [cell_of_row wr _ 0 _ _ _ k3]; rfl
    have z3 : wr.frozen? ⟨w.heap.size + 1 + 1, 0, none⟩ = false := frozen_of_row _ _ _ _ _ k3
    obtain ⟨⟨y0, y1⟩, z0, z1⟩ := cells2t k1
    obtain ⟨a5, c5, rfl⟩ := owns_shape own1
    by_cases hend : n - 2 * k = 0
    · have HG : Hid (tabB xs = true) := tab_good (by rw [HX.out]; exact hn) k (by rw [HX.out]; omega) hok
      have HK : Hid (n / 2 = k) := by show _ = _; omega
      rw [hend] at t3
      clear hok hrow k3
      go_wp2
      refine leaves_cons (f := 107) (args := #[.pointer (some ⟨w.heap.size, 0, none⟩)]) (by simp) (by simp [go_sem]) ?_
      refine (catch_idleT w.heap.size _).mono ?_
      rintro e u' w'' ⟨rfl, rfl, rfl⟩
      simp [Leaves, settle, results, Tryz.results64, go_sem, y0, y1]
      refine ⟨_, ⟨HG.out, rfl⟩, fun _ => ?_, fun h => absurd (HG.out.symm.trans h) (by decide), (hB1.setCell (Nat.le_refl _) _).setCell (Nat.le_refl _) _⟩
      rw [HK.out]
      refine owns_baseT (owns_heapT own1 fun g cur f hB hg => ?_) (by omega : w.heap.size ≤ w.heap.size + 1)
      rw [setCell_block (by omega), setCell_block (by omega)]
    by_cases hodd : n - 2 * k < 2
    · have HG : Hid (tabB xs = false) := tab_odd (by rw [HX.out]; omega)
      have hpos : (0 : Int) < ((n - 2 * k : Nat) : Int) := by omega
      go_wp2_with fail
      refine (readEntry_short _ _ _ _ _ t3 hodd).mono ?_
      rintro e w2 ⟨rfl, hb2⟩
      have k2 := (hb2.block w.heap.size l1).trans k1
      refine leaves_cons (f := 107) (args := #[.pointer (some ⟨w.heap.size, 0, none⟩)]) (by simp) (by simp [go_sem]) ?_
      refine (catch_outT w.heap.size _ _ _ k2).mono ?_
      rintro e u' w3 ⟨rfl, rfl, hk3, x0, x1⟩
      simp [Leaves, settle, results, Tryz.results64, go_sem, x0, x1]
      exact ⟨_, ⟨HG.out, rfl⟩, fun h => by rw [HG.out] at h; (cases h), fun _ => rfl, (hB1.trans (hb2.mono s1)).trans (hk3.below (by have := hb2.size; omega) (fun g hg => by omega))⟩
    · have hpos : (0 : Int) < ((n - 2 * k : Nat) : Int) := by omega
      go_wp2_with fail
      refine (readEntry_long _ _ _ _ (xs.drop (2 * k)) w _ hrow hB1 (by omega) t3 z3 (by omega) hc1 (by omega) (fun i hi => by rw [List.getElem?_drop]; exact HY.out _ (by omega))).mono ?_
      rintro e w2 ⟨rfl, hk2, a2, c2, x2, f2, m1, m2, r2, hh⟩
      have k3' := hh _ _ k3
      have k1' := (hk2.block w.heap.size l1 (by omega)).trans k1
      have own2 : w2.ownsRow (w.heap.size + 1) 164 2 (.slice a5 k c5) k (eC (ents xs k)) := owns_heapT own1 fun g cur f hB hg => hk2.block g (Array.getElem?_eq_some_iff.1 hg).1 (fun e => by rw [e, k3] at hg; injection hg with hg; injection hg with _ h2 _; exact absurd h2 (by decide))
      have hB2 : Below w.heap.size w w2 := hB1.trans (hk2.below s1 (fun g hg => by omega))
      have z2 := hk2.size
      have HE : Hid (entI xs k = (ent2 (xs.drop (2 * k)) % 32768, decide (32768 ≤ ent2 (xs.drop (2 * k))))) := rfl
      have HR : Hid (IRow .u8 w a2 (n - 2 * (k + 1)) (xs.drop (2 * (k + 1)))) := by
        show IRow _ _ _ _ _
        have := r2
        rw [List.drop_drop] at this
        rw [show n - 2 * (k + 1) = n - 2 * k - 2 from by omega, show 2 * (k + 1) = 2 * k + 2 from by omega]; exact this
      generalize ent2 (xs.drop (2 * k)) % 32768 = x at *
      generalize decide (32768 ≤ ent2 (xs.drop (2 * k))) = b at *
      clear hh hk2 own1 hrow t3 z3 y0 y1 z0 z1 x2 f2 r2 k1 k3 hB1
      go_wp2_with fail
      refine (validEntry_impl x b _).mono ?_
      rintro e w4 ⟨rfl, hb4⟩
      have hb4' : Below w2.heap.size w2 w4 := ((Below.refl _ _).alloc (Nat.le_refl _) _).trans (hb4.mono (by simp))
      have k1'' := (hb4'.block w.heap.size (by omega)).trans k1'
      have k3'' := (hb4'.block (w.heap.size + 1 + 1) (by omega)).trans k3'
      have hB4 : Below w.heap.size w w4 := hB2.trans (hb4'.mono hB2.size)
      have own4 : w4.ownsRow (w.heap.size + 1) 164 2 (.slice a5 k c5) k (eC (ents xs k)) := owns_heapT own2 fun g cur f hB hg => hb4'.block g (Array.getElem?_eq_some_iff.1 hg).1
      have kb := (hb4.block w2.heap.size (by simp)).trans (heap_alloc_new w2 _)
      have u0 : w4.cell? ⟨w2.heap.size, 0, none⟩ = some (.int .i64 x) := by rw [cell_of_row w4 _ 0 _ _ _ kb]; rfl
      have u1 : w4.cell? ⟨w2.heap.size, 1, none⟩ = some (.bool b) := by rw [cell_of_row w4 _ 1 _ _ _ kb]; rfl
      obtain ⟨⟨y0, y1⟩, z0, z1⟩ := cells2t k1''
      have s4 := hB4.size
      clear hb4 kb own2 k1' k3'
      cases hv : veB x b
      · have HG : Hid (tabB xs = false) := tab_bad k (by rw [HX.out]; omega) (by unfold okI; rw [HE.out]; exact hv)
        clear hb4' own4 k3''
        go_wp2
        refine leaves_cons (f := 107) (args := #[.pointer (some ⟨w.heap.size, 0, none⟩)]) (by simp) (by simp [go_sem]) ?_
        refine (catch_idleT w.heap.size _).mono ?_
        rintro e u' w'' ⟨rfl, rfl, rfl⟩
        simp [Leaves, settle, results, Tryz.results64, go_sem, y0, y1]
        exact ⟨_, ⟨HG.out, rfl⟩, fun h => by rw [HG.out] at h; (cases h), fun _ => rfl, (hB4.setCell (Nat.le_refl _) _).setCell (Nat.le_refl _) _⟩
      · have HO : Hid (okI xs k = true) := by show _ = _; unfold okI; rw [HE.out]; exact hv
        have HS : Hid (eC (ents xs (k + 1)) = eC (ents xs k) ++ [.int .i64 x, .bool b]) := by show _ = _; rw [eC_succ, HE.out]
        have HOK : Hid (∀ i, i < k → okI xs i = true) := hok
        have v1 := (Array.getElem?_eq_some_iff.1 k1'').1
        have v3 := (Array.getElem?_eq_some_iff.1 k3'').1
        clear hb4' hok
        go_wp2_with (at_builtin; refine wpList_append_own _ rfl _ _ 45 rfl (w.heap.size + 1) 164 i2 (.agg #[.int .i64 0, .bool false]) 2 16 Tryz.underlying45 ki kz0 kz1 kz2 rfl (by decide) _ _ _ rfl (own4.alloc _) ⟨w4.heap.size, 0, none⟩ 1 1 [.int .i64 x, .bool b] rfl rfl two_newT (two_oneT _ _) (by unfold maxLen; omega) (by omega) (by simp; omega) ?_)
        intro s' w5 own5 grow5 _
        have hB5 : Below w.heap.size w w5 := (hB4.alloc s4 _).grown grow5 (by simp; omega) (fun k hk => by have := (own4.lt k hk).1; omega)
        have g1 := ((grow5.block _ (by simp; omega) (owns_neT own4 k1'' (by decide))).trans (heap_alloc_old w4 _ v1)).trans k1''
        have g3 := ((grow5.block _ (by simp; omega) (owns_neT own4 k3'' (by decide))).trans (heap_alloc_old w4 _ v3)).trans k3''
        have own6 : w5.ownsRow (w.heap.size + 1) 164 2 s' (k + 1) (eC (ents xs (k + 1))) := by rw [HS.out]; exact own5
        obtain ⟨a6, c6, rfl⟩ := owns_shape own6
        clear own5 own4 grow5 HS k1'' k3'' y0 y1 z0 z1 u0 u1
        go_wp2
        go_roundw
        case rel => exact ⟨k + 1, a2, c2, by omega, own6, hB5, g1, by rw [show n - 2 * (k + 1) = n - 2 * k - 2 from by omega]; exact g3, by omega, by omega, HR.out, fun i hi => by
          by_cases e : i = k
          · rw [e]; exact HO.out
          · exact HOK.out i (by omega)⟩
        case measure => simp [lenOf]; omega
end Go.Proofs.YtonpdbajoidigaaGreatDoor

/-
  FnExactEncodeTable: the law's walk.
-/
namespace Go.Proofs.YtonpdbajoidigaaGreatDoor
open Go.RowKit
set_option linter.unusedSimpArgs false
set_option linter.unusedVariables false

theorem encT_len (es : List (Int × Bool)) : (encT es).length ≤ 2048 := by
  unfold encT
  split
  · rename_i h; rw [eBytes_len]; omega
  · simp

theorem Row.drewN {k : IntKind} {G : Nat → Prop} {w : World} {a : Option Addr} {n : Nat} {xs : List Int} (h : Row k G w a n xs) (d : Nat) : Row k G (w.drewN d) a n xs := h
theorem EOwn.drewN {G : Nat → Prop} {w : World} {a : Option Addr} {m : Nat} {es : List (Int × Bool)} (h : EOwn G w a m es) (d : Nat) : EOwn G (w.drewN d) a m es := h
theorem below_dN {w : World} (d : Nat) : Below w.heap.size w (w.drewN d) := below_drewN (Below.refl _ _) d

end Go.Proofs.YtonpdbajoidigaaGreatDoor

/-
  The specification's DecodeTable.
-/
namespace Go.Proofs.YtonpdbajoidigaaGreatDoor
open Go.RowKit
set_option linter.unusedSimpArgs false
set_option linter.unusedVariables false

theorem heap_two {w : World} {r : Nat} {v0 v1 v : Value} {t : TypeId} (h : w.heap[r]? = some (.cells #[v0, v1] t (0, 0))) : (w.setCell ⟨r, 1, none⟩ v).heap[r]? = some (.cells #[v0, v] t (0, 0)) := by
  simp [World.setCell, Array.getElem?_modify, h]
theorem irow_two {w : World} {g off n : Nat} {xs : List Int} (h : IRow .u8 w (some ⟨g, off, none⟩) n xs) (k : Nat) (hk : 2 * k + 2 ≤ n) : IRow .u8 w (some ⟨g, off + 2 * k, none⟩) 2 ((xs.drop (2 * k)).take 2) := by
  obtain ⟨h1, h2⟩ := h
  refine ⟨by simp [h1]; omega, ?_⟩
  rcases h2 with h2 | ⟨g', off', e, hc⟩
  · omega
  · injection e with e
    injection e with e1 e2 e3
    subst e1; subst e2
    refine .inr ⟨g, off + 2 * k, rfl, fun i hi => ?_⟩
    rw [Nat.add_assoc, hc (2 * k + i) (by omega), List.getElem?_take, if_pos hi, List.getElem?_drop]

end Go.Proofs.YtonpdbajoidigaaGreatDoor

/-
  FnExactDecodeTable: the law's walk.
-/
namespace Go.Proofs.YtonpdbajoidigaaGreatDoor
open Go.RowKit
set_option linter.unusedSimpArgs false
set_option linter.unusedVariables false

theorem eC_len (es : List (Int × Bool)) : (eC es).length = es.length * 2 := by
  induction es with
  | nil => rfl
  | cons x es ih => simp only [eC, List.flatMap_cons, List.length_append, List.length_cons, List.length_nil] at ih ⊢; omega
theorem eC_at (es : List (Int × Bool)) : ∀ i, i < es.length → (eC es)[i * 2]? = some (.int .i64 (eA es i)) ∧ (eC es)[i * 2 + 1]? = some (.bool (eI es i)) := by
  induction es with
  | nil => intro i h; simp at h
  | cons x es ih =>
    intro i h
    cases i with
    | zero => simp [eC, eA, eI]
    | succ i =>
      have := ih i (by simpa using h)
      have e1 : (i + 1) * 2 = i * 2 + 1 + 1 := by omega
      have e2 : (i + 1) * 2 + 1 = i * 2 + 1 + 1 + 1 := by omega
      rw [e1]
      simpa [eC, eA, eI] using this
theorem owns_e {w : World} {B n : Nat} {s : Value} {es : List (Int × Bool)} (h : w.ownsRow B 164 2 s n (eC es)) : ∃ a c, s = .slice a n c ∧ EOwn (fun g => B ≤ g ∧ g < w.heap.size) w a n es := by
  have hl : es.length = n := by have := h.1; rw [eC_len] at this; omega
  have h' := h
  rcases h.2 with ⟨rfl, h0⟩ | ⟨g, cap, cur, rfl, hB, hg, hc, hm, hsz, ht⟩
  · exact ⟨none, 0, by rw [h0], hl, .inl h0⟩
  · refine ⟨some ⟨g, 0, none⟩, cap, rfl, hl, .inr ⟨g, 0, rfl, ⟨hB, (Array.getElem?_eq_some_iff.1 hg).1⟩, fun i hi => ?_⟩⟩
    obtain ⟨q1, q2⟩ := eC_at es i (by omega)
    rw [Nat.zero_add]
    exact ⟨⟨by rw [h'.cellAt _ (by omega)]; exact q1, h'.frozenAt _⟩, by rw [h'.cellAt _ (by omega)]; exact q2, h'.frozenAt _⟩

/-- The table that is decoded. -/
def tabE (xs : List Int) : List (Int × Bool) := if tabB xs = true then ents xs (xs.length / 2) else []
theorem tabE_len (xs : List Int) : (tabE xs).length ≤ 1024 := by
  unfold tabE
  split
  · rename_i h
    unfold tabB at h
    simp only [Bool.and_eq_true, decide_eq_true_eq] at h
    simp [ents]; omega
  · simp
theorem tab_shape {xs : List Int} {n : Nat} (hl : xs.length = n) {w w' : World} {B : Nat} {v : Value} (h1 : tabB xs = true → w'.ownsRow B 164 2 v (n / 2) (eC (ents xs (n / 2)))) (h2 : tabB xs = false → v = .slice none 0 0) :
    ∃ a' c', v = .slice a' (tabE xs).length c' ∧ EOwn (fun g => B ≤ g ∧ g < w'.heap.size) w' a' (tabE xs).length (tabE xs) := by
  unfold tabE
  rw [hl]
  cases h : tabB xs
  · exact ⟨none, 0, by rw [h2 h]; rfl, rfl, .inl rfl⟩
  · rw [if_pos rfl]
    have e : (ents xs (n / 2)).length = n / 2 := by simp [ents]
    rw [e]
    exact owns_e (h1 h)

theorem decodeTable_any (a : Option Addr) (n c : Nat) (xs : List Int) (w : World) (ha : IRow .u8 w a n xs) (hx : ∀ i, i < n → 0 ≤ xs[i]?.getD 0 ∧ xs[i]?.getD 0 ≤ 255) (hc : n ≤ c) (hm : c ≤ 9223372036854775807) :
    Calls Tryz.prog 64 #[.slice a n c] w fun e w' => ∃ a' c', e = .returned (.agg #[.bool (tabB xs), .slice a' (tabE xs).length c']) ∧ EOwn (fun g => w.heap.size ≤ g ∧ g < w'.heap.size) w' a' (tabE xs).length (tabE xs) ∧ Below w.heap.size w w' := by
  have bad : tabB xs = false → ∀ w' : World, EOwn (fun g => w.heap.size ≤ g ∧ g < w'.heap.size) w' none (tabE xs).length (tabE xs) ∧ (tabE xs).length = 0 := fun h w' => by
    unfold tabE; rw [h]; exact ⟨⟨rfl, .inl rfl⟩, rfl⟩
  by_cases h1 : 2048 < n
  · refine (decodeTable_long a n c w h1).mono ?_
    rintro e w' ⟨rfl, hb⟩
    have hf := tab_long (xs := xs) (by rw [ha.1]; exact h1)
    exact ⟨none, 0, by rw [hf, (bad hf w').2], (bad hf w').1, hb⟩
  · refine (decodeTable_short a n c xs w ha hx (by omega) hc hm).mono ?_
    rintro e w' ⟨v, rfl, q1, q2, hb⟩
    obtain ⟨a', c', rfl, q⟩ := tab_shape (w := w) ha.1 q1 q2
    exact ⟨a', c', rfl, q, hb⟩

end Go.Proofs.YtonpdbajoidigaaGreatDoor

/-
  Valid inodes, the specification's and the program's.
-/
namespace Go.Proofs.YtonpdbajoidigaaGreatDoor
open Go.RowKit
set_option linter.unusedSimpArgs false
set_option linter.unusedVariables false

def lidB (x : Int) : Bool := decide (1 ≤ x) && decide (x ≤ 65535)
def lidsB (xs : List Int) : Bool := xs.all lidB
def inoB (nm : ByteArray) (z : Int) (xs : List Int) : Bool := nameB nm && ((decide (0 ≤ z) && decide (z ≤ 1408)) && (decide ((xs.length : Int) = nblkI z) && lidsB xs))
theorem lidsB_succ (xs : List Int) (k : Nat) (h : k < xs.length) : lidsB (xs.take (k + 1)) = (lidsB (xs.take k) && lidB (xs[k]?.getD 0)) := by
  rw [List.take_succ_eq_append_getElem h]
  simp only [lidsB, List.all_append, List.all_cons, List.all_nil, Bool.and_true, List.getElem?_eq_getElem h, Option.getD_some]
theorem lidsB_no (xs : List Int) (k : Nat) (h : k < xs.length) (hn : lidB (xs[k]?.getD 0) = false) : lidsB xs = false := by
  have e := lidsB_succ xs k h
  rw [hn, Bool.and_false] at e
  rw [← List.take_append_drop (k + 1) xs]
  simp only [lidsB, List.all_append, Bool.and_eq_false_iff] at e ⊢
  exact .inl e

theorem box_facts {w : World} {o : Obj} (d : Nat) : Below w.heap.size w ((w.alloc o).drewN d) ∧ ((w.alloc o).drewN d).heap[w.heap.size]? = some o :=
  ⟨below_drewN ((Below.refl _ _).alloc (Nat.le_refl _) _) d, heap_alloc_new w o⟩

end Go.Proofs.YtonpdbajoidigaaGreatDoor

/-
  Inodes as blocks: the specification's EncodeInode, the program's inodeBlock.
-/
namespace Go.Proofs.YtonpdbajoidigaaGreatDoor
open Go.RowKit
set_option linter.unusedSimpArgs false
set_option linter.unusedVariables false

/-- The bytes of a name. -/
def nmL (nm : ByteArray) : List Int := nm.data.toList.map fun c => (c.toNat : Int)
theorem nmL_len (nm : ByteArray) : (nmL nm).length = nm.size := by simp [nmL]
def lidL (xs : List Int) : List Int := xs.flatMap fun x => beB x 2
/-- The block of an inode. -/
def inoL (nm : ByteArray) (z : Int) (xs : List Int) : List Int := padL (padL (nmL nm) 16 ++ beB z 2 ++ lidL xs) 64
def encI (nm : ByteArray) (z : Int) (xs : List Int) : List Int := if inoB nm z xs = true then inoL nm z xs else []
theorem lidL_len (xs : List Int) : (lidL xs).length = xs.length * 2 := by
  induction xs with
  | nil => rfl
  | cons x xs ih => simp only [lidL, List.flatMap_cons, List.length_append, beB_len, List.length_cons] at ih ⊢; omega
theorem lidL_succ (xs : List Int) (k : Nat) (h : k < xs.length) : lidL (xs.take (k + 1)) = lidL (xs.take k) ++ beB (xs[k]?.getD 0) 2 := by
  rw [List.take_succ_eq_append_getElem h]
  simp only [lidL, List.flatMap_append, List.flatMap_cons, List.flatMap_nil, List.append_nil, List.getElem?_eq_getElem h, Option.getD_some]
theorem ino_facts {nm : ByteArray} {z : Int} {xs : List Int} (h : inoB nm z xs = true) : (1 ≤ nm.size ∧ nm.size ≤ 16) ∧ (0 ≤ z ∧ z ≤ 1408) ∧ (xs.length : Int) = nblkI z ∧ xs.length ≤ 22 ∧ ∀ x ∈ xs, 1 ≤ x ∧ x ≤ 65535 := by
  simp only [inoB, nameB, lidsB, Bool.and_eq_true, decide_eq_true_eq, List.all_eq_true] at h
  obtain ⟨⟨_, h1⟩, h2, h3, h4⟩ := h
  refine ⟨h1, h2, h3, by unfold nblkI at h3; omega, fun x hx => ?_⟩
  have := h4 x hx
  simp only [lidB, Bool.and_eq_true, decide_eq_true_eq] at this
  exact this
theorem ino_lid {nm : ByteArray} {z : Int} {xs : List Int} (h : inoB nm z xs = true) (k : Nat) (hk : k < xs.length) : 1 ≤ xs[k]?.getD 0 ∧ xs[k]?.getD 0 ≤ 65535 := by
  have := (ino_facts h).2.2.2.2 xs[k] (List.getElem_mem hk)
  simpa [List.getElem?_eq_getElem hk] using this

theorem conv_row (w : World) (nm : ByteArray) (cap : Nat) (m : Nat × Nat) : IRow .u8 (w.alloc (.cells (bytesRow nm cap) 5 m)).drew (some ⟨w.heap.size, 0, none⟩) nm.size (nmL nm) := by
  refine ⟨nmL_len nm, .inr ⟨w.heap.size, 0, rfl, fun i hi => ?_⟩⟩
  rw [Nat.zero_add, conv_cell w nm cap m i hi]
  simp only [nmL, List.getElem?_map]
  rw [List.getElem?_eq_getElem (by simpa using hi)]
  simp
  rfl
theorem owns_belowI {w w' : World} {B e sz n : Nat} {s : Value} {xs : List Value} (h : w.ownsRow B e sz s n xs) (hb : Below w.heap.size w w') : w'.ownsRow B e sz s n xs :=
  h.kept (row := none) ⟨hb.os, hb.tape, hb.output, hb.size, fun k hk _ => hb.block k hk⟩ (by cases hv : s.ownBlock <;> simp)
theorem owns_baseI {w : World} {B B' e sz n : Nat} {s : Value} {xs : List Value} (h : w.ownsRow B e sz s n xs) (hB : B' ≤ B) : w.ownsRow B' e sz s n xs := by
  refine ⟨h.1, h.2.imp id ?_⟩
  rintro ⟨g, cap, cur, e1, hg, rest⟩
  exact ⟨g, cap, cur, e1, by omega, rest⟩

end Go.Proofs.YtonpdbajoidigaaGreatDoor
