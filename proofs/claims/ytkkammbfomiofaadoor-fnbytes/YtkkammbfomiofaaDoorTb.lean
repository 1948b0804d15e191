/-
  The program's DecodeTable.
-/
import Derived.Test.YtkkammbfomiofaaDoorHeld
import Derived.Test.YtkkammbfomiofaaDoorIno
import Derived.Test.YtkkammbfomiofaaDoorGg
namespace Go.Proofs.YtkkammbfomiofaaDoor
open Go.RowKit
set_option linter.unusedSimpArgs false
set_option linter.unusedVariables false

/-- The entry at place i; the first k; their cells. -/
def entI (xs : List Int) (i : Nat) : Int × Bool := (ent2 (xs.drop (2 * i)) % 32768, decide (32768 ≤ ent2 (xs.drop (2 * i))))
def ents (xs : List Int) (k : Nat) : List (Int × Bool) := (List.range k).map (entI xs)
def eC (es : List (Int × Bool)) : List Value := es.flatMap fun e => [.int .i64 e.1, .bool e.2]
theorem eC_succ (xs : List Int) (k : Nat) : eC (ents xs (k + 1)) = eC (ents xs k) ++ [.int .i64 (entI xs k).1, .bool (entI xs k).2] := by
  simp only [ents, eC, List.range_succ, List.map_append, List.flatMap_append, List.map_cons, List.map_nil, List.flatMap_cons, List.flatMap_nil, List.append_nil]
def okI (xs : List Int) (i : Nat) : Bool := veB (entI xs i).1 (entI xs i).2
def tabB (xs : List Int) : Bool := decide (xs.length ≤ 2048) && (decide (xs.length % 2 = 0) && (List.range (xs.length / 2)).all (okI xs))
theorem tab_long {xs : List Int} (h : 2048 < xs.length) : tabB xs = false := by
  unfold tabB; rw [decide_eq_false (by omega)]; rfl
theorem tab_odd {xs : List Int} (h : xs.length % 2 = 1) : tabB xs = false := by
  unfold tabB; rw [decide_eq_false (p := xs.length % 2 = 0) (by omega)]; simp
theorem tab_bad {xs : List Int} (k : Nat) (hk : 2 * k + 2 ≤ xs.length) (h : okI xs k = false) : tabB xs = false := by
  unfold tabB
  have : (List.range (xs.length / 2)).all (okI xs) = false := by
    rw [List.all_eq_false]
    exact ⟨k, by simp; omega, by rw [h]; simp⟩
  rw [this]; simp
theorem tab_good {xs : List Int} (hl : xs.length ≤ 2048) (k : Nat) (hk : xs.length = 2 * k) (h : ∀ i, i < k → okI xs i = true) : tabB xs = true := by
  unfold tabB
  have e : xs.length / 2 = k := by omega
  rw [e, decide_eq_true hl, decide_eq_true (by omega)]
  simp only [Bool.true_and, List.all_eq_true, List.mem_range]
  exact h
theorem cells2t {w : World} {g : Nat} {x0 x1 : Value} (k1 : w.heap[g]? = some (.cells #[x0, x1] 35 (0, 0))) :
    (w.cell? ⟨g, 0, none⟩ = some x0 ∧ w.cell? ⟨g, 1, none⟩ = some x1) ∧ w.frozen? ⟨g, 0, none⟩ = false ∧ w.frozen? ⟨g, 1, none⟩ = false :=
  ⟨⟨by rw [cell_of_row w g 0 _ _ _ k1]; rfl, by rw [cell_of_row w g 1 _ _ _ k1]; rfl⟩, frozen_of_row _ _ _ _ _ k1, frozen_of_row _ _ _ _ _ k1⟩

set_option maxHeartbeats 1000000 in
theorem decodeTable_long (a : Option Addr) (n c : Nat) (w : World) (hn : 2048 < n) :
    Calls Tryd.prog 11 #[.slice a n c] w fun e w' => e = .returned (.agg #[.bool false, .slice none 0 0]) ∧ Below w.heap.size w w' := by
  have hmf : ∀ (fn : Fn) (first cap : Array Value) (w : World), (Instr.makeFunc fn first cap).run Tryd.prog w = .ok (.func fn first cap) w := fun _ _ _ _ => rfl
  go_enter_defers Tryd.func11, Tryd.ntmps11
  go_wp2
  refine leaves_cons (f := 32) (args := #[.pointer (some ⟨w.heap.size, 0, none⟩)]) (by simp) (by simp [go_sem]) ?_
  refine (catch_idleT w.heap.size _).mono ?_
  rintro e u' w'' ⟨rfl, rfl, rfl⟩
  simp [Leaves, settle, results, Tryd.results11, go_sem]
  exact (Below.refl _ _).alloc (Nat.le_refl _) _

theorem owns_heapT {w w' : World} {B n : Nat} {v : Value} {xs : List Value} (h : w.ownsRow B 38 2 v n xs) (hh : ∀ g cur f, B ≤ g → w.heap[g]? = some (.cells cur 38 f) → w'.heap[g]? = w.heap[g]?) : w'.ownsRow B 38 2 v n xs := by
  refine ⟨h.1, h.2.imp id ?_⟩
  rintro ⟨g, cap, cur, e1, hB, hg, rest⟩
  exact ⟨g, cap, cur, e1, hB, (hh g _ _ hB hg).trans hg, rest⟩
theorem owns_baseT {w : World} {B B' n : Nat} {v : Value} {xs : List Value} (h : w.ownsRow B 38 2 v n xs) (hB : B' ≤ B) : w.ownsRow B' 38 2 v n xs := by
  refine ⟨h.1, h.2.imp id ?_⟩
  rintro ⟨g, cap, cur, e1, hg, rest⟩
  exact ⟨g, cap, cur, e1, by omega, rest⟩
theorem owns_neT {w : World} {B n h : Nat} {s : Value} {xs : List Value} {c : Array Value} {t : TypeId} {f : Nat × Nat} (ho : w.ownsRow B 38 2 s n xs) (hh : w.heap[h]? = some (.cells c t f)) (ht : t ≠ 38) : some h ≠ s.ownBlock := by
  rcases ho.2 with ⟨rfl, _⟩ | ⟨g, cap, cur, rfl, _, hg, _⟩
  · simp [Value.ownBlock]
  · simp only [Value.ownBlock, ne_eq, Option.some.injEq]
    intro e
    subst e
    rw [hh] at hg
    injection hg with hg
    injection hg with _ h2 _
    exact ht h2
theorem two_newT {w : World} {x y : Value} {t : TypeId} : ∀ j u, [x, y][j]? = some u → (w.alloc (.cells #[x, y] t)).cell? ((⟨w.heap.size, 0, none⟩ : Addr).add j) = some u := two_new
theorem two_oneT (x : Int) (y : Bool) : ∀ u ∈ [Value.int .i64 x, Value.bool y], u.oneCell' = true := by intro u hu; simp at hu; rcases hu with rfl | rfl <;> rfl

set_option maxHeartbeats 2000000 in
set_option maxRecDepth 100000 in
theorem decodeTable_short (a : Option Addr) (n c : Nat) (xs : List Int) (w : World) (ha : IRow .u8 w a n xs) (hx : ∀ i, i < n → 0 ≤ xs[i]?.getD 0 ∧ xs[i]?.getD 0 ≤ 255) (hn : n ≤ 2048) (hc : n ≤ c) (hm : c ≤ 9223372036854775807) :
    Calls Tryd.prog 11 #[.slice a n c] w fun e w' => ∃ v, e = .returned (.agg #[.bool (tabB xs), v]) ∧ (tabB xs = true → w'.ownsRow w.heap.size 38 2 v (n / 2) (eC (ents xs (n / 2)))) ∧ (tabB xs = false → v = .slice none 0 0) ∧ Below w.heap.size w w' := by
  have hmf : ∀ (fn : Fn) (first cap : Array Value) (w : World), (Instr.makeFunc fn first cap).run Tryd.prog w = .ok (.func fn first cap) w := fun _ _ _ _ => rfl
  obtain ⟨i2, ki, kz0, kz1, kz2⟩ := info_parts info38
  have HX : Hid (xs.length = n) := ha.1
  have HA : Hid (IRow .u8 w a n xs) := ha
  have HY : Hid (∀ i, i < n → 0 ≤ xs[i]?.getD 0 ∧ xs[i]?.getD 0 ≤ 255) := hx
  clear ha hx
  have s3 : ∀ o1 o2 o3 : Obj, ((((w.alloc o1).alloc o2).alloc o3)).heap[w.heap.size]? = some o1 ∧ ((((w.alloc o1).alloc o2).alloc o3)).heap[w.heap.size + 1]? = some o2 ∧ ((((w.alloc o1).alloc o2).alloc o3)).heap[w.heap.size + 1 + 1]? = some o3 ∧ Below w.heap.size w ((((w.alloc o1).alloc o2).alloc o3)) := fun o1 o2 o3 =>
    have hb := (((Below.refl w.heap.size w).alloc (Nat.le_refl _) o1).alloc (by simp) o2).alloc (by simp; omega) o3
    have q := three_varsI (w := w) (o1 := o1) (o2 := o2) (o3 := o3) (Below.refl _ _)
    ⟨q.1, q.2.1, q.2.2, hb⟩
  go_enter_defers Tryd.func11, Tryd.ntmps11
  go_wp2
  go_loopw [3, 5] (fun s e5 wr => ∃ (k : Nat) (a' : Option Addr) (c' : Nat), 2 * k ≤ n ∧ wr.ownsRow (w.heap.size + 1) 38 2 s k (eC (ents xs k)) ∧ Below w.heap.size w wr ∧ wr.heap[w.heap.size]? = some (.cells #[.bool false, .slice none 0 0] 35 (0, 0)) ∧ wr.heap[w.heap.size + 1 + 1]? = some (.cells #[.slice a' (n - 2 * k) c'] 62 (0, 0)) ∧ n - 2 * k ≤ c' ∧ c' ≤ c ∧ IRow .u8 w a' (n - 2 * k) (xs.drop (2 * k)) ∧ (∀ i, i < k → okI xs i = true)) (fun s _ _ => n - lenOf s)
  case atStart =>
    obtain ⟨b1, b2, b3, b4⟩ := s3 (.cells #[.bool false, .slice none 0 0] 35) (.cells #[] 38) (.cells #[.slice a n c] 62)
    exact ⟨0, a, c, by omega, ⟨rfl, .inr ⟨_, 0, #[], rfl, Nat.le_refl _, b2, Nat.le_refl _, Nat.zero_le _, rfl, rfl⟩⟩, b4, b1, b3, by omega, Nat.le_refl _, by simpa using HA.out, fun i hi => by omega⟩
  case round =>
    obtain ⟨k, a', c', hk, own1, hB1, k1, k3, hc1, hc2, hrow, hok⟩ := hrel
    have l1 := (Array.getElem?_eq_some_iff.1 k1).1
    have l3 := (Array.getElem?_eq_some_iff.1 k3).1
    have s1 := hB1.size
    have t3 : wr.cell? ⟨w.heap.size + 1 + 1, 0, none⟩ = some (.slice a' (n - 2 * k) c') := by rw [cell_of_row wr _ 0 _ _ _ k3]; rfl
    have z3 : wr.frozen? ⟨w.heap.size + 1 + 1, 0, none⟩ = false := frozen_of_row _ _ _ _ _ k3
    obtain ⟨⟨y0, y1⟩, z0, z1⟩ := cells2t k1
    obtain ⟨a5, c5, rfl⟩ := owns_shape own1
    by_cases hend : n - 2 * k = 0
    · have HG : Hid (tabB xs = true) := tab_good (by rw [HX.out]; exact hn) k (by rw [HX.out]; omega) hok
      have HK : Hid (n / 2 = k) := by show _ = _; omega
      rw [hend] at t3
      clear hok hrow k3
      go_wp2
      refine leaves_cons (f := 32) (args := #[.pointer (some ⟨w.heap.size, 0, none⟩)]) (by simp) (by simp [go_sem]) ?_
      refine (catch_idleT w.heap.size _).mono ?_
      rintro e u' w'' ⟨rfl, rfl, rfl⟩
      simp [Leaves, settle, results, Tryd.results11, go_sem, y0, y1]
      refine ⟨_, ⟨HG.out, rfl⟩, fun _ => ?_, fun h => absurd (HG.out.symm.trans h) (by decide), (hB1.setCell (Nat.le_refl _) _).setCell (Nat.le_refl _) _⟩
      rw [HK.out]
      refine owns_baseT (owns_heapT own1 fun g cur f hB hg => ?_) (by omega : w.heap.size ≤ w.heap.size + 1)
      rw [setCell_block (by omega), setCell_block (by omega)]
    by_cases hodd : n - 2 * k < 2
    · have HG : Hid (tabB xs = false) := tab_odd (by rw [HX.out]; omega)
      have hpos : (0 : Int) < ((n - 2 * k : Nat) : Int) := by omega
      go_wp2_with fail
      refine (readEntry_short _ _ _ _ _ t3 hodd).mono ?_
      rintro e w2 ⟨rfl, hb2⟩
      have k2 := (hb2.block w.heap.size l1).trans k1
      refine leaves_cons (f := 32) (args := #[.pointer (some ⟨w.heap.size, 0, none⟩)]) (by simp) (by simp [go_sem]) ?_
      refine (catch_outT w.heap.size _ _ _ k2).mono ?_
      rintro e u' w3 ⟨rfl, rfl, hk3, x0, x1⟩
      simp [Leaves, settle, results, Tryd.results11, go_sem, x0, x1]
      exact ⟨_, ⟨HG.out, rfl⟩, fun h => by rw [HG.out] at h; (cases h), fun _ => rfl, (hB1.trans (hb2.mono s1)).trans (hk3.below (by have := hb2.size; omega) (fun g hg => by omega))⟩
    · have hpos : (0 : Int) < ((n - 2 * k : Nat) : Int) := by omega
      go_wp2_with fail
      refine (readEntry_long _ _ _ _ (xs.drop (2 * k)) w _ hrow hB1 (by omega) t3 z3 (by omega) hc1 (by omega) (fun i hi => by rw [List.getElem?_drop]; exact HY.out _ (by omega))).mono ?_
      rintro e w2 ⟨rfl, hk2, a2, c2, x2, f2, m1, m2, r2, hh⟩
      have k3' := hh _ _ k3
      have k1' := (hk2.block w.heap.size l1 (by omega)).trans k1
      have own2 : w2.ownsRow (w.heap.size + 1) 38 2 (.slice a5 k c5) k (eC (ents xs k)) := owns_heapT own1 fun g cur f hB hg => hk2.block g (Array.getElem?_eq_some_iff.1 hg).1 (fun e => by rw [e, k3] at hg; injection hg with hg; injection hg with _ h2 _; exact absurd h2 (by decide))
      have hB2 : Below w.heap.size w w2 := hB1.trans (hk2.below s1 (fun g hg => by omega))
      have z2 := hk2.size
      have HE : Hid (entI xs k = (ent2 (xs.drop (2 * k)) % 32768, decide (32768 ≤ ent2 (xs.drop (2 * k))))) := rfl
      have HR : Hid (IRow .u8 w a2 (n - 2 * (k + 1)) (xs.drop (2 * (k + 1)))) := by
        show IRow _ _ _ _ _
        have := r2
        rw [List.drop_drop] at this
        rw [show n - 2 * (k + 1) = n - 2 * k - 2 from by omega, show 2 * (k + 1) = 2 * k + 2 from by omega]; exact this
      generalize ent2 (xs.drop (2 * k)) % 32768 = x at *
      generalize decide (32768 ≤ ent2 (xs.drop (2 * k))) = b at *
      clear hh hk2 own1 hrow t3 z3 y0 y1 z0 z1 x2 f2 r2 k1 k3 hB1
      go_wp2_with fail
      refine (validEntry_impl x b _).mono ?_
      rintro e w4 ⟨rfl, hb4⟩
      have hb4' : Below w2.heap.size w2 w4 := ((Below.refl _ _).alloc (Nat.le_refl _) _).trans (hb4.mono (by simp))
      have k1'' := (hb4'.block w.heap.size (by omega)).trans k1'
      have k3'' := (hb4'.block (w.heap.size + 1 + 1) (by omega)).trans k3'
      have hB4 : Below w.heap.size w w4 := hB2.trans (hb4'.mono hB2.size)
      have own4 : w4.ownsRow (w.heap.size + 1) 38 2 (.slice a5 k c5) k (eC (ents xs k)) := owns_heapT own2 fun g cur f hB hg => hb4'.block g (Array.getElem?_eq_some_iff.1 hg).1
      have kb := (hb4.block w2.heap.size (by simp)).trans (heap_alloc_new w2 _)
      have u0 : w4.cell? ⟨w2.heap.size, 0, none⟩ = some (.int .i64 x) := by rw [cell_of_row w4 _ 0 _ _ _ kb]; rfl
      have u1 : w4.cell? ⟨w2.heap.size, 1, none⟩ = some (.bool b) := by rw [cell_of_row w4 _ 1 _ _ _ kb]; rfl
      obtain ⟨⟨y0, y1⟩, z0, z1⟩ := cells2t k1''
      have s4 := hB4.size
      clear hb4 kb own2 k1' k3'
      cases hv : veB x b
      · have HG : Hid (tabB xs = false) := tab_bad k (by rw [HX.out]; omega) (by unfold okI; rw [HE.out]; exact hv)
        clear hb4' own4 k3''
        go_wp2
        refine leaves_cons (f := 32) (args := #[.pointer (some ⟨w.heap.size, 0, none⟩)]) (by simp) (by simp [go_sem]) ?_
        refine (catch_idleT w.heap.size _).mono ?_
        rintro e u' w'' ⟨rfl, rfl, rfl⟩
        simp [Leaves, settle, results, Tryd.results11, go_sem, y0, y1]
        exact ⟨_, ⟨HG.out, rfl⟩, fun h => by rw [HG.out] at h; (cases h), fun _ => rfl, (hB4.setCell (Nat.le_refl _) _).setCell (Nat.le_refl _) _⟩
      · have HO : Hid (okI xs k = true) := by show _ = _; unfold okI; rw [HE.out]; exact hv
        have HS : Hid (eC (ents xs (k + 1)) = eC (ents xs k) ++ [.int .i64 x, .bool b]) := by show _ = _; rw [eC_succ, HE.out]
        have HOK : Hid (∀ i, i < k → okI xs i = true) := hok
        have v1 := (Array.getElem?_eq_some_iff.1 k1'').1
        have v3 := (Array.getElem?_eq_some_iff.1 k3'').1
        clear hb4' hok
        go_wp2_with (at_builtin; refine wpList_append_own _ rfl _ _ 31 rfl (w.heap.size + 1) 38 i2 (.agg #[.int .i64 0, .bool false]) 2 16 Tryd.underlying31 ki kz0 kz1 kz2 rfl (by decide) _ _ _ rfl (own4.alloc _) ⟨w4.heap.size, 0, none⟩ 1 1 [.int .i64 x, .bool b] rfl rfl two_newT (two_oneT _ _) (by unfold maxLen; omega) (by omega) (by simp; omega) ?_)
        intro s' w5 own5 grow5 _
        have hB5 : Below w.heap.size w w5 := (hB4.alloc s4 _).grown grow5 (by simp; omega) (fun k hk => by have := (own4.lt k hk).1; omega)
        have g1 := ((grow5.block _ (by simp; omega) (owns_neT own4 k1'' (by decide))).trans (heap_alloc_old w4 _ v1)).trans k1''
        have g3 := ((grow5.block _ (by simp; omega) (owns_neT own4 k3'' (by decide))).trans (heap_alloc_old w4 _ v3)).trans k3''
        have own6 : w5.ownsRow (w.heap.size + 1) 38 2 s' (k + 1) (eC (ents xs (k + 1))) := by rw [HS.out]; exact own5
        obtain ⟨a6, c6, rfl⟩ := owns_shape own6
        clear own5 own4 grow5 HS k1'' k3'' y0 y1 z0 z1 u0 u1
        go_wp2
        go_roundw
        case rel => exact ⟨k + 1, a2, c2, by omega, own6, hB5, g1, by rw [show n - 2 * (k + 1) = n - 2 * k - 2 from by omega]; exact g3, by omega, by omega, HR.out, fun i hi => by
          by_cases e : i = k
          · rw [e]; exact HO.out
          · exact HOK.out i (by omega)⟩
        case measure => simp [lenOf]; omega
end Go.Proofs.YtkkammbfomiofaaDoor
