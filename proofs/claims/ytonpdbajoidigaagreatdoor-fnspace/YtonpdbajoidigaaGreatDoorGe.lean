/-
  Cdr, Pac, Cds.
-/
import Derived.Test.YtonpdbajoidigaaGreatDoorCdw
import Derived.Test.YtonpdbajoidigaaGreatDoorGc
/-
  The cached disk: hasBlock, read.
-/
namespace Go.Proofs.YtonpdbajoidigaaGreatDoor
open Go.RowKit
set_option linter.unusedSimpArgs false
set_option linter.unusedVariables false

/-- The block as its youngest write left it. -/
def readL (xs : List Int) (ws : List (Int × List Int)) (b : Int) : List Int := ws.foldl (fun acc x => if x.1 = b then x.2 else acc) ((xs.drop (64 * b.toNat)).take 64)
theorem readL_no {xs : List Int} {b : Int} : ∀ {ws : List (Int × List Int)}, (∀ x ∈ ws, x.1 ≠ b) → readL xs ws b = (xs.drop (64 * b.toNat)).take 64 := by
  intro ws h
  unfold readL
  generalize (xs.drop (64 * b.toNat)).take 64 = acc
  induction ws generalizing acc with
  | nil => rfl
  | cons x ws ih =>
    rw [List.foldl_cons, if_neg (h x (by simp))]
    exact ih (fun y hy => h y (by simp [hy])) acc
theorem readL_yes {xs : List Int} {b : Int} {ws : List (Int × List Int)} {i : Nat} {x : Int × List Int} (hi : ws[i]? = some x) (hx : x.1 = b) (hl : ∀ (j : Nat) (y : Int × List Int), i < j → ws[j]? = some y → y.1 ≠ b) : readL xs ws b = x.2 := by
  have hlt : i < ws.length := (List.getElem?_eq_some_iff.1 hi).1
  have e : ws = ws.take i ++ x :: ws.drop (i + 1) := by
    have h1 : ws[i] = x := by rw [List.getElem?_eq_getElem hlt] at hi; injection hi
    rw [← h1, List.getElem_cons_drop, List.take_append_drop]
  have hd : ∀ y ∈ ws.drop (i + 1), y.1 ≠ b := by
    intro y hy
    obtain ⟨j, hj⟩ := List.mem_iff_getElem?.1 hy
    rw [List.getElem?_drop] at hj
    exact hl (i + 1 + j) y (by omega) hj
  unfold readL
  rw [e, List.foldl_append, List.foldl_cons, if_pos hx]
  generalize ws.drop (i + 1) = r at hd
  generalize x.2 = acc
  clear e hi hl hlt hx
  induction r generalizing acc with
  | nil => rfl
  | cons y r ih =>
    rw [List.foldl_cons, if_neg (hd y (by simp))]
    exact ih (fun z hz => hd z (by simp [hz])) acc

/-- The cells of write i. -/
theorem cws_at {ws : List (Int × List Int)} (hl : ∀ x ∈ ws, x.2.length = 64) : ∀ {i : Nat} {x : Int × List Int}, ws[i]? = some x → ((cwsL ws).drop (i * 65)).take 65 = cwL x := by
  induction ws with
  | nil => intro i x h; simp at h
  | cons y ws ih =>
    intro i x h
    have hy : (cwL y).length = 65 := cwL_len y (hl y (by simp))
    have e : cwsL (y :: ws) = cwL y ++ cwsL ws := by simp [cwsL]
    cases i with
    | zero =>
      simp at h
      subst h
      rw [e, Nat.zero_mul, List.drop_zero, List.take_append_of_le_length (by omega), List.take_of_length_le (by omega)]
    | succ i =>
      rw [e, show (i + 1) * 65 = (cwL y).length + i * 65 by rw [hy]; omega, List.drop_append]
      simp at h
      have hz : (cwL y).drop ((cwL y).length + i * 65) = [] := List.drop_eq_nil_of_le (by omega)
      rw [hz, List.nil_append, show (cwL y).length + i * 65 - (cwL y).length = i * 65 by omega]
      exact ih (fun z hz => hl z (by simp [hz])) h

/-- Cells of an owned row. -/
theorem owns_range {w : World} {B e sz n : Nat} {a : Option Addr} {c : Nat} {vs : List Value} (h : w.ownsRow B e sz (.slice a n c) n vs) (i k : Nat) (hn : 0 < n) : ∃ g, a = some ⟨g, 0, none⟩ ∧ n ≤ c ∧ w.rangeAt g i ((vs.drop i).take k) := by
  rcases h.2 with ⟨e1, h0⟩ | ⟨g, cap, cur, e1, hB, hh, hcap, _, hcs, htk⟩
  · omega
  · injection e1 with e1 e2 e3
    subst e3
    refine ⟨g, e1, hcap, fun j v hv => ?_⟩
    rw [cell_of_row w g (i + j) _ _ _ hh]
    rw [List.getElem?_take] at hv
    split at hv
    · rw [List.getElem?_drop, ← htk, List.getElem?_take] at hv
      split at hv
      · simpa using hv
      · cases hv
    · cases hv

/-- Block k of the bytes. -/
def chk64 (xs : List Int) (k : Nat) : List Int := (xs.drop (64 * k)).take 64

set_option maxRecDepth 100000 in
set_option maxHeartbeats 1000000 in
theorem cread_any (B C nb : Nat) (xs : List Int) (ws : List (Int × List Int)) (da : Option Addr) (dc : Nat) (wa : Option Addr) (wc M : Nat) (D : DataW Unit) (b : Int) (w : World) (h : CD B w C nb xs ws (.slice da nb dc) (.slice wa ws.length wc) M D) (hb : (Lit.int .i64 b).wf = true) (h0 : 0 ≤ b) (h1 : b < (nb : Int)) (hm : ws.length < 4096) (hnb : nb ≤ 4096) :
    Calls Tryz.prog 61 #[.pointer (some ⟨C, 0, none⟩), .int .i64 b] w fun e w' => e = .returned (.agg (u8s (readL xs ws b)).toArray) ∧ Below w.heap.size w w' := by
  obtain ⟨W0, hW0⟩ : ∃ W0, w.alloc (Obj.cells z64.toArray 74) = W0 := ⟨_, rfl⟩
  have hb0 : Below w.heap.size w W0 := by rw [← hW0]; exact (Below.refl _ w).alloc (Nat.le_refl _) _
  have g3 : W0.heap[w.heap.size]? = some (.cells z64.toArray 74 (0, 0)) := by rw [← hW0]; exact heap_alloc_new w _
  have h' := h.below hb0
  obtain ⟨k1, k2, k3, kf⟩ := cells3 h'.cell
  have HM : Hid (W0.ownsMap Tryz.prog 2 (plainElem Tryz.prog 3) M ws.length D) := h'.map
  have hlC := h.ltC
  rw [z64_lit] at hW0
  cases hh : Maps.has D (.int .i64 b)
  · have HR : Hid (readL xs ws b = chk64 xs b.toNat) := readL_no (h.young.no b hb hh)
    have hX : (chk64 xs b.toNat).length = 64 := by
      simp only [chk64, List.length_take, List.length_drop, h.len]
      omega
    obtain ⟨g, rfl, hcap, rng⟩ := owns_range h'.dur (b.toNat * 64) 64 (by omega)
    have e1 : ((u8s xs).drop (b.toNat * 64)).take 64 = u8s (chk64 xs b.toNat) := by simp [u8s, chk64, List.map_take, List.map_drop, Nat.mul_comm]
    rw [e1] at rng
    obtain ⟨bn, rfl⟩ : ∃ bn : Nat, b = (bn : Int) := ⟨b.toNat, by omega⟩
    simp only [Int.toNat_natCast] at rng hX HR
    have hXs : (u8s (chk64 xs bn)).toArray.size = 64 := by rw [List.size_toArray, u8s_len, hX]
    have h1X : (u8s (chk64 xs bn)).toArray.all (·.oneCell') = true := all_oneCell_toArray (many_u8 _)
    have hbn : bn < nb := by omega
    clear h h' e1 h0
    go_enter Tryz.func61, Tryz.ntmps61
    go_wp2_with (first
      | (at_lookup; refine wpList_lookup_own_ok_int _ rfl _ _ 89 rfl 2 3 .i64 (Maps.int_keyed Tryz.underlying2) Tryz.underlying89 Tryz.underlying3 (by simp [zeroValue]; rfl) M ws.length D rfl HM.out _ _ rfl (Maps.keyOf_int_mk Tryz.underlying2 hb) ?_; intro c hat hwc; skip)
      | (refine wpList_load_mid rfl 74 _ rfl g (bn * 64) rfl (u8s (chk64 xs bn)) _ rng Tryz.underlying74 rfl (by rw [u8s_len, hX]; exact infoBB) ?_)
      | (refine wpList_store_row rfl 74 _ _ rfl w.heap.size (u8s (chk64 xs bn)).toArray rfl rfl 74 _ g3 (by rw [hXs]; exact infoBB) (by rw [hXs]; rfl) h1X ?_))
    refine bodyPost_ret (v := .agg (u8s (chk64 xs bn)).toArray) (results_cell_row Tryz.results61 _ _ w.heap.size 74 (u8s (chk64 xs bn)).toArray (0, 0) _ rfl (setRow_heap W0 w.heap.size _ _ 74 _ g3) Tryz.underlying74 rfl (by rw [hXs]; exact infoBB)) rfl ?_
    exact ⟨by rw [HR.out], below_setRow hb0 (Nat.le_refl _) _⟩
  · obtain ⟨i, x, hi, hx, ha, hl⟩ := h.young.yes b hb hh
    have HR : Hid (readL xs ws b = x.2) := readL_yes hi hx hl
    have hil : i < ws.length := (List.getElem?_eq_some_iff.1 hi).1
    have hxm : x ∈ ws := List.mem_of_getElem? hi
    have hX : x.2.length = 64 := (h.lens x hxm).1
    obtain ⟨g, rfl, hcap, rng0⟩ := owns_range h'.wr (i * 65) 65 (by omega)
    rw [cws_at (fun y hy => (h.lens y hy).1) hi] at rng0
    have rng : W0.rangeAt g (i * 65 + 1) (u8s x.2) := fun j v hv => by
      have := rng0 (j + 1) v (by simpa [cwL] using hv)
      rwa [show i * 65 + (j + 1) = i * 65 + 1 + j by omega] at this
    have hXs : (u8s x.2).toArray.size = 64 := by rw [List.size_toArray, u8s_len, hX]
    have h1X : (u8s x.2).toArray.all (·.oneCell') = true := all_oneCell_toArray (many_u8 _)
    have hil' : (i : Int) < (ws.length : Int) := by omega
    have HA : Hid (∀ z, D.atKey (.int .i64 b) z = .lit (.int .i64 (i : Int))) := ha
    clear h h' rng0 hi hl hx hxm ha
    go_enter Tryz.func61, Tryz.ntmps61
    go_wp2_with (first
      | (at_lookup; refine wpList_lookup_own_ok_int _ rfl _ _ 89 rfl 2 3 .i64 (Maps.int_keyed Tryz.underlying2) Tryz.underlying89 Tryz.underlying3 (by simp [zeroValue]; rfl) M ws.length D rfl HM.out _ _ rfl (Maps.keyOf_int_mk Tryz.underlying2 hb) ?_; intro c hat hwc; obtain rfl : c = (i : Int) := (by rw [HA.out] at hat; injection hat with hat; injection hat with _ hat; exact hat.symm))
      | (refine wpList_load_mid rfl 74 _ rfl g (i * 65 + 1) rfl (u8s x.2) _ rng Tryz.underlying74 rfl (by rw [u8s_len, hX]; exact infoBB) ?_)
      | (refine wpList_store_row rfl 74 _ _ rfl w.heap.size (u8s x.2).toArray rfl rfl 74 _ g3 (by rw [hXs]; exact infoBB) (by rw [hXs]; rfl) h1X ?_))
    refine bodyPost_ret (v := .agg (u8s x.2).toArray) (results_cell_row Tryz.results61 _ _ w.heap.size 74 (u8s x.2).toArray (0, 0) _ rfl (setRow_heap W0 w.heap.size _ _ 74 _ g3) Tryz.underlying74 rfl (by rw [hXs]; exact infoBB)) rfl ?_
    exact ⟨by rw [HR.out], below_setRow hb0 (Nat.le_refl _) _⟩
end Go.Proofs.YtonpdbajoidigaaGreatDoor

/-
  A list of writes that grows by append.
-/
namespace Go.Proofs.YtonpdbajoidigaaGreatDoor
open Go.RowKit
set_option linter.unusedSimpArgs false
set_option linter.unusedVariables false

def wvL (ws : List WV) : List Value := ws.flatMap fun x => [.int .i64 x.blk, .slice x.a x.n x.c]
theorem wvL_snoc (ws : List WV) (x : WV) : wvL (ws ++ [x]) = wvL ws ++ [.int .i64 x.blk, .slice x.a x.n x.c] := by simp [wvL]
theorem wvL_at : ∀ (ws : List WV) (i : Nat), i < ws.length → (wvL ws)[i * 2]? = some (.int .i64 (wBlk ws i)) ∧ (wvL ws)[i * 2 + 1]? = some (.slice (wA ws i) (wN ws i) (wC ws i))
  | [], i, h => by simp at h
  | x :: ws, 0, h => by simp [wvL, wBlk, wA, wN, wC]
  | x :: ws, i + 1, h => by
    have ih := wvL_at ws i (by simpa using h)
    have e : wvL (x :: ws) = .int .i64 x.blk :: .slice x.a x.n x.c :: wvL ws := by simp [wvL]
    rw [e, show (i + 1) * 2 = i * 2 + 1 + 1 by omega]
    simpa [wBlk, wA, wN, wC] using ih
theorem wget_snoc (ws : List WV) (x : WV) (i : Nat) : (ws ++ [x])[i]?.getD wv0 = if i = ws.length then x else ws[i]?.getD wv0 := by
  by_cases e : i = ws.length
  · subst e; simp
  · rw [if_neg e]
    by_cases h : i < ws.length
    · rw [List.getElem?_append_left h]
    · rw [List.getElem?_append_right (by omega), List.getElem?_eq_none (by simp; omega), List.getElem?_eq_none (by omega)]

/-- The row of the writes, and the data of each in a block of its own; T tells the blocks apart, Z are blocks of others. -/
structure PAcc (T : Nat → Nat) (Z : Nat → Prop) (B : Nat) (w : World) (v : Value) (ws : List WV) : Prop where
  row : w.ownsRow B 96 2 v ws.length (wvL ws)
  tag : ∀ g, v.ownBlock = some g → T g = 1
  rows : ∀ i, i < ws.length → Row .u8 (fun g => T g = 2 + i ∧ B ≤ g) w (wA ws i) (wN ws i) (wBs ws i) ∧ wN ws i ≤ 2097152
  z : ∀ g, Z g → T g = 0
  u8 : ∀ g, 2 ≤ T g → ∃ cur, w.heap[g]? = some (.cells cur 5 (0, 0))

theorem PAcc.nil (Z : Nat → Prop) (B : Nat) (w : World) : PAcc (fun _ => 0) Z B w (.slice none 0 0) [] :=
  ⟨⟨rfl, .inl ⟨rfl, rfl⟩⟩, fun g hg => by simp [Value.ownBlock] at hg, fun i hi => by simp at hi, fun _ _ => rfl, fun g hg => by omega⟩

theorem PAcc.kept {T : Nat → Nat} {Z : Nat → Prop} {B : Nat} {w w' : World} {v : Value} {ws : List WV} {G : Nat → Prop} (h : PAcc T Z B w v ws) (hk : Kept G w w') (hG : ∀ g, G g → T g = 0) : PAcc T Z B w' v ws := by
  refine ⟨row_kept h.row hk (fun g hg hh => ?_), h.tag, fun i hi => ⟨(h.rows i hi).1.kept hk (fun g hg hh => ?_), (h.rows i hi).2⟩, h.z, fun g hg => ?_⟩
  · have h1 := h.tag g hg
    have h3 := hG g hh
    omega
  · have h3 := hG g hh
    omega
  · obtain ⟨cur, hc⟩ := h.u8 g hg
    exact ⟨cur, (hk.block g (Array.getElem?_eq_some_iff.1 hc).1 (fun hh => by have h3 := hG g hh; omega)).trans hc⟩

theorem PAcc.step {T : Nat → Nat} {Z : Nat → Prop} {B : Nat} {w w1 w2 : World} {v : Value} {ws : List WV} (h : PAcc T Z B w v ws) (hb : Below w.heap.size w w1) {o : Obj} {gn c : Nat} {blk : Int} {bs : List Int} {g' cap' : Nat} {cur : Array Value}
    (hgn : w.heap.size ≤ gn) (hBw : B ≤ w.heap.size) (hr : Row .u8 (fun x => x = gn) w1 (some ⟨gn, 0, none⟩) bs.length bs) (hbl : bs.length ≤ 2097152) (hcur : w1.heap[gn]? = some (.cells cur 5 (0, 0)))
    (hg2 : (w1.alloc o).grownBy w2 v.ownBlock) (hown2 : w2.ownsRow B 96 2 (.slice (some ⟨g', 0, none⟩) (ws.length + 1) cap') (ws.length + 1) (wvL ws ++ [.int .i64 blk, .slice (some ⟨gn, 0, none⟩) bs.length c]))
    (hZ : ∀ g, Z g → g < w.heap.size ∧ ∃ o, w2.heap[g]? = some o ∧ ∀ cur, o ≠ .cells cur 96 (0, 0)) :
    PAcc (fun x => if x = g' then 1 else if x = gn then 2 + ws.length else T x) Z B w2 (.slice (some ⟨g', 0, none⟩) (ws.length + 1) cap') (ws ++ [(⟨blk, some ⟨gn, 0, none⟩, bs.length, c, bs⟩ : WV)]) ∧ Kept (fun g => v.ownBlock = some g) w w2 := by
  have k12 : Kept (fun g => v.ownBlock = some g) w1 w2 := (Kept.of_below ((Below.refl _ w1).alloc (Nat.le_refl _) o) _).trans (grown_kept hg2)
  have k02 : Kept (fun g => v.ownBlock = some g) w w2 := (Kept.of_below hb _).trans k12
  have hgl : gn < w1.heap.size := (Array.getElem?_eq_some_iff.1 hcur).1
  have ngn : ¬ v.ownBlock = some gn := fun e => by have := (h.row.lt gn e).2; omega
  have hgn2 : w2.heap[gn]? = some (.cells cur 5 (0, 0)) := (k12.block gn hgl ngn).trans hcur
  have hg'n : g' ≠ gn := by
    intro e
    obtain ⟨cur', hc'⟩ := owns_tag hown2 (g := g') rfl
    rw [e, hgn2] at hc'
    injection hc' with hc'
    injection hc' with _ hc'
    revert hc'; decide
  have hl : (ws ++ [(⟨blk, some ⟨gn, 0, none⟩, bs.length, c, bs⟩ : WV)]).length = ws.length + 1 := by simp
  have hold : ∀ g, 2 ≤ T g → g ≠ g' ∧ g ≠ gn ∧ ¬ v.ownBlock = some g := fun g hT => by
    obtain ⟨cur1, hc1⟩ := h.u8 g hT
    have hlt := (Array.getElem?_eq_some_iff.1 hc1).1
    have hne : ¬ v.ownBlock = some g := fun e => by have := h.tag g e; omega
    refine ⟨fun e => ?_, by omega, hne⟩
    obtain ⟨cur', hc'⟩ := owns_tag hown2 (g := g') rfl
    rw [← e, k02.block g hlt hne, hc1] at hc'
    injection hc' with hc'
    injection hc' with _ hc'
    revert hc'; decide
  refine ⟨⟨?_, ?_, ?_, ?_, ?_⟩, k02⟩
  · rw [hl, wvL_snoc]
    exact hown2
  · intro g hg
    simp only [Value.ownBlock, Option.some.injEq] at hg
    show (if g = g' then 1 else if g = gn then 2 + ws.length else T g) = 1
    rw [if_pos hg.symm]
  · intro i hi
    rw [hl] at hi
    simp only [wA, wN, wBs, wget_snoc]
    by_cases e : i = ws.length
    · subst e
      simp only [if_true]
      refine ⟨(hr.kept k12 (fun g hg => by subst hg; exact ngn)).mono (fun g hg => ?_), hbl⟩
      subst hg
      refine ⟨?_, by omega⟩
      show (if g = g' then 1 else if g = g then 2 + ws.length else T g) = 2 + ws.length
      rw [if_neg (fun e => hg'n e.symm), if_pos rfl]
    · simp only [if_neg e]
      obtain ⟨hr0, hr1⟩ := h.rows i (by omega)
      refine ⟨(hr0.kept k02 (fun g hg => (hold g (by omega)).2.2)).mono (fun g hg => ?_), hr1⟩
      obtain ⟨n1, n2, _⟩ := hold g (by omega)
      refine ⟨?_, hg.2⟩
      show (if g = g' then 1 else if g = gn then 2 + ws.length else T g) = 2 + i
      rw [if_neg n1, if_neg n2]
      exact hg.1
  · intro g hg
    obtain ⟨z1, o', z2, z3⟩ := hZ g hg
    show (if g = g' then 1 else if g = gn then 2 + ws.length else T g) = 0
    rw [if_neg, if_neg (by omega)]
    · exact h.z g hg
    · intro e
      obtain ⟨cur', hc'⟩ := owns_tag hown2 (g := g') rfl
      rw [← e, z2] at hc'
      injection hc' with hc'
      exact z3 _ hc'
  · intro g hg
    by_cases e1 : g = g'
    · rw [if_pos e1] at hg; omega
    · rw [if_neg e1] at hg
      by_cases e2 : g = gn
      · subst e2; exact ⟨cur, hgn2⟩
      · rw [if_neg e2] at hg
        obtain ⟨cur1, hc1⟩ := h.u8 g hg
        exact ⟨cur1, (k02.block g (Array.getElem?_eq_some_iff.1 hc1).1 (hold g hg).2.2).trans hc1⟩

/-- As an owned list of writes. -/
theorem PAcc.own {T : Nat → Nat} {Z : Nat → Prop} {B : Nat} {w : World} {pa : Option Addr} {pc m : Nat} {ws : List WV} (h : PAcc T Z B w (.slice pa m pc) ws) (hm : ws.length = m) : POwn T (fun g => B ≤ g ∧ g < w.heap.size) w pa m ws := by
  subst hm
  refine ⟨rfl, ?_, fun i hi => ⟨(h.rows i hi).1.lt.mono (fun g hg => ⟨hg.1.1, hg.1.2, hg.2⟩), (h.rows i hi).2⟩⟩
  by_cases h0 : ws.length = 0
  · exact .inl h0
  rcases h.row.2 with ⟨_, e0⟩ | ⟨g, cap, cur, e, hB, hh, hcap, _, hcs, htk⟩
  · omega
  injection e with e1 e2 e3
  subst e1
  refine .inr ⟨g, 0, rfl, ⟨h.tag g rfl, hB, (Array.getElem?_eq_some_iff.1 hh).1⟩, fun i hi => ?_⟩
  obtain ⟨l1, l2⟩ := wvL_at ws i hi
  rw [← htk] at l1 l2
  rw [List.getElem?_take, if_pos (by omega)] at l1 l2
  have hf : ∀ j, w.frozen? ⟨g, j, none⟩ = false := fun j => by simp [World.frozen?, hh]
  refine ⟨⟨?_, hf _⟩, ?_⟩
  · rw [Nat.zero_add, cell_of_row w g (i * 2) _ _ _ hh]; simpa using l1
  · rw [Nat.zero_add, cell_of_row w g (i * 2 + 1) _ _ _ hh]; simpa using l2
end Go.Proofs.YtonpdbajoidigaaGreatDoor

/-
  The cached disk: disk.
-/
namespace Go.Proofs.YtonpdbajoidigaaGreatDoor
open Go.RowKit
set_option linter.unusedSimpArgs false
set_option linter.unusedVariables false

theorem infoWr : (Tryz.prog.info? 96).map (fun i => (i.zero, i.size, i.bytes)) = some (some (.agg #[.int .i64 0, .slice none 0 0]), 2, 32) := by kernel_rfl
theorem nil_eq (g off c : Nat) (W : World) : (binOp .eql 22 (.slice (some ⟨g, off, none⟩) 64 c) (.slice none 0 0)).run Tryz.prog W = .ok (.bool false) W := by
  kernel_rfl

set_option maxRecDepth 100000 in
set_option maxHeartbeats 1000000 in
theorem clone_any (g off c : Nat) (bs : List Int) (w : World) (hr : w.rangeAt g off (u8s bs)) (hl : bs.length = 64) :
    Calls Tryz.prog 32 #[.slice (some ⟨g, off, none⟩) 64 c] w fun e w' => ∃ gn cn, e = .returned (.slice (some ⟨gn, 0, none⟩) 64 cn) ∧ w'.ownsRow w.heap.size 5 1 (.slice (some ⟨gn, 0, none⟩) 64 cn) 64 (u8s bs) ∧ Below w.heap.size w w' := by
  obtain ⟨i0, hi, hz0, hz1, hz2⟩ := info_parts info5
  have hlt : g < w.heap.size := World.block_lt_of_cell? w _ (hr 0 (.int .u8 (bs[0]?.getD 0)) (by simp [u8s, List.getElem?_eq_getElem (show 0 < bs.length by omega)]))
  have hr2 : ∀ j u, (u8s bs)[j]? = some u → (w.alloc (Obj.cells #[] 5)).cell? ((⟨g, off, none⟩ : Addr).add j) = some u := fun j u hu => by
    rw [Addr.add_mid]
    exact (World.cell?_of_block (a := ⟨g, off + j, none⟩) (heap_alloc_old w _ hlt)).trans (hr j u hu)
  have HR : Hid (∀ j u, (u8s bs)[j]? = some u → (w.alloc (Obj.cells #[] 5)).cell? ((⟨g, off, none⟩ : Addr).add j) = some u) := hr2
  have hne := fun W => nil_eq g off c W
  clear hr hr2
  go_enter Tryz.func32, Tryz.ntmps32
  go_wp2_with (at_builtin; refine wpList_append_own _ rfl _ _ 22 rfl w.heap.size 5 i0 (.int .u8 0) 1 1 Tryz.underlying22 hi hz0 hz1 hz2 rfl (by decide) _ _ _ rfl (empty_owned w) ⟨g, off, none⟩ 64 c (u8s bs) rfl (by rw [u8s_len, hl]) HR.out (many_u8 _) (by unfold maxLen; omega) (by omega) (by simp) ?_)
  intro v' w2 hown2 hg2 _
  obtain ⟨gn, cn, rfl⟩ : ∃ gn cn, v' = .slice (some ⟨gn, 0, none⟩) 64 cn := by
    rcases hown2.2 with ⟨_, h0⟩ | ⟨g', cap', cur, e, _⟩
    · omega
    · exact ⟨g', cap', e⟩
  have hb : Below w.heap.size w w2 := ((Below.refl _ w).alloc (Nat.le_refl _) _).grown hg2 (by simp) (fun k hk => by simp [Value.ownBlock] at hk; omega)
  clear hg2 HR
  go_wp2
  go_ret
  exact ⟨_, _, rfl, hown2, hb⟩

theorem z65_lit : z65.toArray = #[.int .i64 0, .int .u8 0, .int .u8 0, .int .u8 0, .int .u8 0, .int .u8 0, .int .u8 0, .int .u8 0, .int .u8 0, .int .u8 0, .int .u8 0, .int .u8 0, .int .u8 0, .int .u8 0, .int .u8 0, .int .u8 0, .int .u8 0, .int .u8 0, .int .u8 0, .int .u8 0, .int .u8 0, .int .u8 0, .int .u8 0, .int .u8 0, .int .u8 0, .int .u8 0, .int .u8 0, .int .u8 0, .int .u8 0, .int .u8 0, .int .u8 0, .int .u8 0, .int .u8 0, .int .u8 0, .int .u8 0, .int .u8 0, .int .u8 0, .int .u8 0, .int .u8 0, .int .u8 0, .int .u8 0, .int .u8 0, .int .u8 0, .int .u8 0, .int .u8 0, .int .u8 0, .int .u8 0, .int .u8 0, .int .u8 0, .int .u8 0, .int .u8 0, .int .u8 0, .int .u8 0, .int .u8 0, .int .u8 0, .int .u8 0, .int .u8 0, .int .u8 0, .int .u8 0, .int .u8 0, .int .u8 0, .int .u8 0, .int .u8 0, .int .u8 0, .int .u8 0] := by rfl
theorem tag_neD {W : World} {B e sz n g : Nat} {v : Value} {vs : List Value} {o : Obj} (h : W.ownsRow B e sz v n vs) (hg : W.heap[g]? = some o) (ho : ∀ cur, o ≠ .cells cur e (0, 0)) : v.ownBlock ≠ some g := by
  intro e'
  obtain ⟨cur, hc⟩ := owns_tag h e'
  rw [hg] at hc
  injection hc with hc
  exact ho cur hc
theorem cells_neD {c c' : Array Value} {t t' : TypeId} {f f' : Nat × Nat} (h : t ≠ t') : Obj.cells c t f ≠ Obj.cells c' t' f' := by
  intro e; injection e with _ e; exact h e
theorem u8s_take_add (xs : List Int) (k : Nat) (h : 64 * k + 64 ≤ xs.length) : u8s (xs.take (64 * (k + 1))) = u8s (xs.take (64 * k)) ++ u8s (chk64 xs k) := by
  rw [show 64 * (k + 1) = 64 * k + 64 by omega, List.take_add]
  simp [u8s, chk64]

theorem two_new (w : World) (x y : Value) (t : TypeId) : ∀ j u, [x, y][j]? = some u → (w.alloc (.cells #[x, y] t)).cell? ((⟨w.heap.size, 0, none⟩ : Addr).add j) = some u := cells_new w [x, y] t
theorem two_one (b : Int) (a : Option Addr) {n c : Nat} : ∀ u ∈ [Value.int .i64 b, .slice a n c], u.oneCell' = true := by
  intro u hu
  simp at hu
  rcases hu with rfl | rfl <;> rfl
theorem disk_step {w W1 w5 w6 : World} {N Dv V k n64 : Nat} {ga gc : Nat} {pa : Option Addr} {pc : Nat} {T : Nat → Nat} {vs : List WV} {xs : List Int} {ws : List (Int × List Int)} {x : Int × List Int} {gn cn g' cap' : Nat} {o : Obj} {cw : Array Value}
    (hd : W1.heap[Dv]? = some (.cells #[.slice (some ⟨ga, 0, none⟩) n64 gc, .slice pa k pc] 33 (0, 0))) (hn : W1.heap[N]? = some (.cells #[.slice none 0 0, .slice none 0 0] 33 (0, 0))) (ho : W1.ownsRow N 5 1 (.slice (some ⟨ga, 0, none⟩) n64 gc) n64 (u8s xs))
    (hp : PAcc T (fun g => g = N ∨ g = Dv ∨ g = ga) N W1 (.slice pa k pc) vs) (hB : Below N w W1) (hND : N < Dv) (hDV : Dv < V) (hV : V < W1.heap.size) (g4 : W1.heap[V]? = some (.cells cw 93 (0, 0)))
    (hown5 : w5.ownsRow W1.heap.size 5 1 (.slice (some ⟨gn, 0, none⟩) 64 cn) 64 (u8s x.2)) (hb5 : Below W1.heap.size W1 w5)
    (hg6 : (w5.alloc o).grownBy w6 (Value.slice pa k pc).ownBlock) (hown6 : w6.ownsRow N 96 2 (.slice (some ⟨g', 0, none⟩) (k + 1) cap') (k + 1) (wvL vs ++ [.int .i64 x.1, .slice (some ⟨gn, 0, none⟩) 64 cn]))
    (hvl : vs.length = k) (hvw : wVal vs = ws.take k) (hx : ws[k]? = some x) (hX : x.2.length = 64) :
    ∃ T', w6.heap[Dv]? = some (.cells #[.slice (some ⟨ga, 0, none⟩) n64 gc, .slice pa k pc] 33 (0, 0)) ∧
      Hid ((w6.setCell ⟨Dv, 1, none⟩ (.slice (some ⟨g', 0, none⟩) (k + 1) cap')).heap[Dv]? = some (.cells #[.slice (some ⟨ga, 0, none⟩) n64 gc, .slice (some ⟨g', 0, none⟩) (k + 1) cap'] 33 (0, 0))) ∧
      Hid ((w6.setCell ⟨Dv, 1, none⟩ (.slice (some ⟨g', 0, none⟩) (k + 1) cap')).heap[N]? = some (.cells #[.slice none 0 0, .slice none 0 0] 33 (0, 0))) ∧
      Hid ((w6.setCell ⟨Dv, 1, none⟩ (.slice (some ⟨g', 0, none⟩) (k + 1) cap')).ownsRow N 5 1 (.slice (some ⟨ga, 0, none⟩) n64 gc) n64 (u8s xs)) ∧
      Hid (PAcc T' (fun g => g = N ∨ g = Dv ∨ g = ga) N (w6.setCell ⟨Dv, 1, none⟩ (.slice (some ⟨g', 0, none⟩) (k + 1) cap')) (.slice (some ⟨g', 0, none⟩) (k + 1) cap') (vs ++ [(⟨x.1, some ⟨gn, 0, none⟩, 64, cn, x.2⟩ : WV)])) ∧
      Hid (Below N w (w6.setCell ⟨Dv, 1, none⟩ (.slice (some ⟨g', 0, none⟩) (k + 1) cap'))) ∧
      Hid ((vs ++ [(⟨x.1, some ⟨gn, 0, none⟩, 64, cn, x.2⟩ : WV)]).length = k + 1 ∧ wVal (vs ++ [(⟨x.1, some ⟨gn, 0, none⟩, 64, cn, x.2⟩ : WV)]) = ws.take (k + 1)) ∧
      (∀ v, W1.cell? ⟨V, 0, none⟩ = some v → w6.cell? ⟨V, 0, none⟩ = some v) ∧ (∀ v, W1.cell? ⟨V, 0, none⟩ = some v → (w6.setCell ⟨Dv, 1, none⟩ (.slice (some ⟨g', 0, none⟩) (k + 1) cap')).cell? ⟨V, 0, none⟩ = some v) := by
  obtain ⟨ao, co, e5, r5⟩ := owns_row hown5
  injection e5 with e5
  subst e5
  rcases hown5.2 with ⟨e, _⟩ | ⟨g5, c5, cur5, e5, hB5, hh5, _⟩
  · cases e
  injection e5 with e5 _ _
  injection e5 with e5
  injection e5 with e5
  subst e5
  have r5' : Row .u8 (fun y => y = gn) w5 (some ⟨gn, 0, none⟩) x.2.length x.2 := by
    rw [hX]
    refine ⟨hX, .inr ⟨gn, 0, rfl, rfl, ?_⟩⟩
    rcases r5.2 with h0 | ⟨g, off, e, _, hc⟩
    · omega
    · injection e with e; injection e with e1 e2; subst e1; subst e2; exact hc
  have k5 : Kept (fun g => (Value.slice pa k pc).ownBlock = some g) W1 w6 := ((Kept.of_below hb5 _).trans (Kept.of_below ((Below.refl _ w5).alloc (Nat.le_refl _) o) _)).trans (grown_kept hg6)
  have lt : ∀ {g : Nat} {o : Obj}, W1.heap[g]? = some o → g < W1.heap.size := fun hh => (Array.getElem?_eq_some_iff.1 hh).1
  have hd6 := (k5.block Dv (lt hd) (tag_neD hp.row hd (fun cur => cells_neD (by decide)))).trans hd
  have hn6 := (k5.block N (lt hn) (tag_neD hp.row hn (fun cur => cells_neD (by decide)))).trans hn
  have hv6 := (k5.block V (lt g4) (tag_neD hp.row g4 (fun cur => cells_neD (by decide)))).trans g4
  obtain ⟨curg, hga⟩ := owns_tag ho (g := ga) rfl
  have hga6 := (k5.block ga (lt hga) (tag_neD hp.row hga (fun cur => cells_neD (by decide)))).trans hga
  have ks := Kept.setCell w6 ⟨Dv, 1, none⟩ (.slice (some ⟨g', 0, none⟩) (k + 1) cap') (fun g => g = Dv) rfl
  have hst := hp.step (bs := x.2) (blk := x.1) (c := cn) hb5 hB5 (by have := lt hn; omega) r5' (by omega) hh5 hg6 (by rw [hvl, hX]; exact hown6) (fun g hg => by
    rcases hg with rfl | rfl | rfl
    · exact ⟨lt hn, _, hn6, fun cur => cells_neD (by decide)⟩
    · exact ⟨lt hd, _, hd6, fun cur => cells_neD (by decide)⟩
    · exact ⟨lt hga, _, hga6, fun cur => cells_neD (by decide)⟩)
  rw [hvl, hX] at hst
  have hB6 : Below N w w6 := hB.trans (k5.below (by have := lt hn; omega) (fun g hg => (hp.row.lt g hg).1))
  have cV : ∀ v, W1.cell? ⟨V, 0, none⟩ = some v → w6.cell? ⟨V, 0, none⟩ = some v := fun v hv => (World.cell?_of_block (a := ⟨V, 0, none⟩) (hv6.trans g4.symm)).trans hv
  refine ⟨_, hd6, ?_, (ks.block N (Array.getElem?_eq_some_iff.1 hn6).1 (by omega)).trans hn6, ?_, hst.1.kept ks (fun g hg => by subst hg; exact hst.1.z g (.inr (.inl rfl))), hB6.setCell (by show N ≤ Dv; omega) _, ⟨by simp [hvl], ?_⟩, cV, fun v hv => ?_⟩
  · show _ = _
    simp [World.setCell, Array.getElem?_modify, hd6]
  · refine row_kept (row_kept ho k5 (fun g hg e => ?_)) ks (fun g hg e => ?_)
    · simp only [Value.ownBlock, Option.some.injEq] at hg
      subst hg
      exact tag_neD hp.row hga (fun cur => cells_neD (by decide)) e
    · subst e
      exact tag_neD ho hd (fun cur => cells_neD (by decide)) hg
  · have hkl : k < ws.length := (List.getElem?_eq_some_iff.1 hx).1
    have hxe : ws[k] = x := by rw [List.getElem?_eq_getElem hkl] at hx; injection hx
    rw [List.take_succ_eq_append_getElem hkl, hxe, ← hvw]
    simp [wVal]
  · rw [World.cell?_setCell_other (h := by intro e; injection e with e1; omega)]
    exact cV v hv

set_option maxRecDepth 100000 in
set_option maxHeartbeats 4000000 in
theorem cdisk_any (B C nb : Nat) (xs : List Int) (ws : List (Int × List Int)) (da : Option Addr) (dc : Nat) (wa : Option Addr) (wc M : Nat) (D : DataW Unit) (w : World) (h : CD B w C nb xs ws (.slice da nb dc) (.slice wa ws.length wc) M D) (hm : ws.length < 4096) (hnb : 1 ≤ nb ∧ nb ≤ 4096) :
    Calls Tryz.prog 11 #[.pointer (some ⟨C, 0, none⟩)] w fun e w' => ∃ T vs gd dcap pa pc, e = .returned (.agg #[.slice (some ⟨gd, 0, none⟩) (nb * 64) dcap, .slice pa ws.length pc]) ∧ DOwn T w.heap.size w'.heap.size w' (some ⟨gd, 0, none⟩) (nb * 64) xs pa ws.length vs ∧ wVal vs = ws ∧ nb * 64 ≤ dcap ∧ Below w.heap.size w w' := by
  obtain ⟨i0, hi, hz0, hz1, hz2⟩ := info_parts info5
  have H : Hid (CD B w C nb xs ws (.slice da nb dc) (.slice wa ws.length wc) M D) := h
  obtain ⟨k1, k2, k3, kf⟩ := cells3 h.cell
  have hlC := h.ltC
  obtain ⟨gD, rfl, hcapD, _⟩ := owns_range h.dur 0 0 (by omega)
  clear h
  go_enter Tryz.func11, Tryz.ntmps11
  go_wp2_with (at_make; refine wpList_make_own _ rfl _ _ 22 rfl w.heap.size 5 i0 (.int .u8 0) 1 Tryz.underlying22 hi hz0 hz1 .i64 .i64 _ (nb * 64) rfl rfl ?c1 ?c2 ?c3 ?c4 ?_)
  case c1 => simp
  case c2 => rw [hz2]; omega
  case c3 => unfold maxLen; omega
  case c4 => simp
  intro w2 hown2 hg2
  have hb2 : Below w.heap.size w w2 := ((Below.refl _ w).alloc (Nat.le_refl _) _).grown hg2 (by simp) (fun k hk => by cases hk)
  have n2 : w2.heap[w.heap.size]? = some (.cells #[.slice none 0 0, .slice none 0 0] 33 (0, 0)) := (hg2.block w.heap.size (by simp) (by simp)).trans (heap_alloc_new w _)
  have s2 : w.heap.size < w2.heap.size := (Array.getElem?_eq_some_iff.1 n2).1
  have H2 : Hid (CD B w2 C nb xs ws (.slice (some ⟨gD, 0, none⟩) nb dc) (.slice wa ws.length wc) M D) := H.out.below hb2
  obtain ⟨j1, j2, j3, _⟩ := cells3 H2.out.cell
  have hlC2 : C < w2.heap.size := H2.out.ltC
  have HB2 : Hid (Below w.heap.size w w2) := hb2
  have HN2 : Hid (w2.heap[w.heap.size]? = some (.cells #[.slice none 0 0, .slice none 0 0] 33 (0, 0))) := n2
  have HO2 : Hid (w2.ownsRow w.heap.size 5 1 (.slice (some ⟨w.heap.size + 1, 0, none⟩) 0 (nb * 64)) 0 []) := by show World.ownsRow _ _ _ _ _ _ _; simpa using hown2
  clear hown2 hg2 hb2 n2 k1 k2 k3 kf
  go_wp2
  have HD3 : Hid ((w2.alloc (Obj.cells #[.slice (some ⟨w.heap.size + 1, 0, none⟩) 0 (nb * 64), .slice none 0 0] 33)).heap[w2.heap.size]? = some (.cells #[.slice (some ⟨w.heap.size + 1, 0, none⟩) 0 (nb * 64), .slice none 0 0] 33 (0, 0))) := heap_alloc_new w2 _
  have HN3 : Hid ((w2.alloc (Obj.cells #[.slice (some ⟨w.heap.size + 1, 0, none⟩) 0 (nb * 64), .slice none 0 0] 33)).heap[w.heap.size]? = some (.cells #[.slice none 0 0, .slice none 0 0] 33 (0, 0))) := (heap_alloc_old w2 _ s2).trans HN2.out
  have HB3 : Hid (Below w.heap.size w (w2.alloc (Obj.cells #[.slice (some ⟨w.heap.size + 1, 0, none⟩) 0 (nb * 64), .slice none 0 0] 33))) := HB2.out.alloc HB2.out.size _
  have HO3 : Hid ((w2.alloc (Obj.cells #[.slice (some ⟨w.heap.size + 1, 0, none⟩) 0 (nb * 64), .slice none 0 0] 33)).ownsRow w.heap.size 5 1 (.slice (some ⟨w.heap.size + 1, 0, none⟩) 0 (nb * 64)) 0 (u8s (xs.take 0))) := HO2.out.alloc _
  have HS2 : Hid (w.heap.size < w2.heap.size) := s2
  go_loopw [21] (fun i wr => ∃ (k ga gc : Nat), k ≤ nb ∧ i = .int .i64 k ∧ Hid (wr.heap[w2.heap.size]? = some (.cells #[.slice (some ⟨ga, 0, none⟩) (64 * k) gc, .slice none 0 0] 33 (0, 0))) ∧ Hid (wr.heap[w.heap.size]? = some (.cells #[.slice none 0 0, .slice none 0 0] 33 (0, 0))) ∧ Hid (wr.ownsRow w.heap.size 5 1 (.slice (some ⟨ga, 0, none⟩) (64 * k) gc) (64 * k) (u8s (xs.take (64 * k)))) ∧ Hid (Below w.heap.size w wr)) (fun i _ => nb - (intOf i).toNat)
  case atStart => exact ⟨0, w.heap.size + 1, nb * 64, Nat.zero_le _, rfl, HD3, HN3, HO3, HB3⟩
  case round =>
    obtain ⟨k, ga, gc, hk, rfl, hd, hnn, ho, hbl⟩ := hrel
    clear HD3 HN3 HB3 HO3
    have cd := H.out.below hbl.out
    have sw : w2.heap.size < wr.heap.size := (Array.getElem?_eq_some_iff.1 hd.out).1
    by_cases hlt : k < nb
    · obtain ⟨gD', e1, _, rng0⟩ := owns_range cd.dur (k * 64) 64 (by omega)
      injection e1 with e1
      injection e1 with e1
      subst e1
      have hlx := cd.len
      have e2 : ((u8s xs).drop (k * 64)).take 64 = u8s (chk64 xs k) := by simp [u8s, chk64, List.map_take, List.map_drop, Nat.mul_comm]
      rw [e2] at rng0
      have hX : (chk64 xs k).length = 64 := by simp only [chk64, List.length_take, List.length_drop, hlx]; omega
      have hXs : (u8s (chk64 xs k)).toArray.size = 64 := by rw [List.size_toArray, u8s_len, hX]
      have h1X : (u8s (chk64 xs k)).toArray.all (·.oneCell') = true := all_oneCell_toArray (many_u8 _)
      have HT : Hid (u8s (xs.take (64 * (k + 1))) = u8s (xs.take (64 * k)) ++ u8s (chk64 xs k)) := u8s_take_add xs k (by rw [hlx]; omega)
      have gDl : gD < wr.heap.size := World.block_lt_of_cell? wr _ (rng0 0 (.int .u8 ((chk64 xs k)[0]?.getD 0)) (by simp [u8s, List.getElem?_eq_getElem (show 0 < (chk64 xs k).length by omega)]))
      obtain ⟨W0, hW0⟩ : ∃ W0, wr.alloc (Obj.cells z64.toArray 74) = W0 := ⟨_, rfl⟩
      have hb0 : Below wr.heap.size wr W0 := by rw [← hW0]; exact (Below.refl _ wr).alloc (Nat.le_refl _) _
      have g3 : W0.heap[wr.heap.size]? = some (.cells z64.toArray 74 (0, 0)) := by rw [← hW0]; exact heap_alloc_new wr _
      obtain ⟨W1, hW1⟩ : ∃ W1, W0.setRow wr.heap.size (u8s (chk64 xs k)).toArray = W1 := ⟨_, rfl⟩
      have g4 : W1.heap[wr.heap.size]? = some (.cells (u8s (chk64 xs k)).toArray 74 (0, 0)) := by rw [← hW1]; exact setRow_heap W0 wr.heap.size _ _ 74 _ g3
      have hb1 : Below wr.heap.size wr W1 := by rw [← hW1]; exact below_setRow hb0 (Nat.le_refl _) _
      have hd1 : Hid (W1.heap[w2.heap.size]? = some (.cells #[.slice (some ⟨ga, 0, none⟩) (64 * k) gc, .slice none 0 0] 33 (0, 0))) := (hb1.block _ sw).trans hd.out
      obtain ⟨d1, d2, d3, d4⟩ := two_cells hd1.out
      have rr : ∀ j u, (u8s (chk64 xs k))[j]? = some u → W1.drew.cell? ((⟨wr.heap.size, 0, none⟩ : Addr).add j) = some u := fun j u hu => by
        rw [Addr.add_mid, Nat.zero_add]
        show W1.cell? _ = _
        rw [cell_of_row W1 wr.heap.size j _ _ _ g4]
        simpa using hu
      have HRR : Hid (∀ j u, (u8s (chk64 xs k))[j]? = some u → W1.drew.cell? ((⟨wr.heap.size, 0, none⟩ : Addr).add j) = some u) := rr
      have ho1 : Hid (W1.drew.ownsRow w.heap.size 5 1 (.slice (some ⟨ga, 0, none⟩) (64 * k) gc) (64 * k) (u8s (xs.take (64 * k)))) := row_kept ho.out ((Kept.of_below hb1 (fun _ => False)).trans (Kept.drew _ _)) (fun _ _ => id)
      have HB1 : Hid (Below wr.heap.size wr W1) := hb1
      have rng : wr.rangeAt gD (k * 64) (u8s (chk64 xs k)) := rng0
      rw [z64_lit] at hW0
      clear cd rr hb1 g4 e2 rng0 hlx
      go_wp2_with (first
        | (refine wpList_load_mid rfl 74 _ rfl gD (k * 64) rfl (u8s (chk64 xs k)) _ rng Tryz.underlying74 rfl (by rw [u8s_len, hX]; exact infoBB) ?_)
        | (refine wpList_store_row rfl 74 _ _ rfl wr.heap.size (u8s (chk64 xs k)).toArray rfl rfl 74 _ g3 (by rw [hXs]; exact infoBB) (by rw [hXs]; rfl) h1X ?_))
      try rw [hW1]
      clear hW0 hW1 hb0 g3 rng
      refine wp_region_held_drew (S := fun _ => True) (by kernel_rfl) trivial (fun _ => ?_)
      refine wpAnyH_take (i := 0) (v := .pointer (some ⟨w2.heap.size, 0, none⟩)) rfl (by kernel_rfl) (by kernel_rfl) (by kernel_rfl) (fun _ _ _ h => h) (Or.inl ⟨rfl, fun V hV => by go_simp⟩) trivial ?_
      refine wpAnyH_take (i := 2) (v := .slice (some ⟨wr.heap.size, 0, none⟩) 64 64) rfl (by kernel_rfl) (by kernel_rfl) (by kernel_rfl) (fun _ _ _ h => h) (Or.inl ⟨rfl, fun V hV => by go_simp⟩) trivial ?_
      refine wpAnyH_ready (rs := [1]) (by kernel_rfl) (by simp) (AllReadyH.cons rfl (fun K hK => ?_) AllReadyH.nil)
      go_simp
      refine hK.out _ _ trivial (fun _ => ?_)
      clear hK K
      refine wpAnyH_ready (rs := [3]) (by kernel_rfl) (by simp) (AllReadyH.cons rfl (fun K hK => ?_) AllReadyH.nil)
      refine if_wanted rfl (wp_append_own _ (.tmp 26) (.tmp 27) 22 rfl w.heap.size 5 i0 (.int .u8 0) 1 1 Tryz.underlying22 hi hz0 hz1 hz2 rfl (by decide) (.slice (some ⟨ga, 0, none⟩) (64 * k) gc) (64 * k) (u8s (xs.take (64 * k))) rfl ho1.out ⟨wr.heap.size, 0, none⟩ 64 64 (u8s (chk64 xs k)) rfl (by rw [u8s_len, hX]) HRR.out (many_u8 _) (by unfold maxLen; omega) (by omega) (by have := hbl.out.size; have := HB1.out.size; show w.heap.size ≤ W1.heap.size; omega) (fun v' w4 hown4 hg4 _ => ?_))
      rw [← HT.out] at hown4
      obtain ⟨g', cap', rfl⟩ : ∃ g' cap', v' = .slice (some ⟨g', 0, none⟩) (64 * k + 64) cap' := by
        rcases hown4.2 with ⟨_, h0⟩ | ⟨g', cap', cur, e, _⟩
        · omega
        · exact ⟨g', cap', e⟩
      have hnd : ¬ (Value.slice (some ⟨ga, 0, none⟩) (64 * k) gc).ownBlock = some w2.heap.size := tag_neD ho1.out (o := (.cells #[.slice (some ⟨ga, 0, none⟩) (64 * k) gc, .slice none 0 0] 33 (0, 0))) hd1.out (fun cur => cells_neD (by decide))
      have hnn4 : ¬ (Value.slice (some ⟨ga, 0, none⟩) (64 * k) gc).ownBlock = some w.heap.size := tag_neD ho1.out (o := (.cells #[.slice none 0 0, .slice none 0 0] 33 (0, 0))) ((HB1.out.block _ (by have := HS2.out; omega)).trans hnn.out) (fun cur => cells_neD (by decide))
      have hd4 : w4.heap[w2.heap.size]? = some (.cells #[.slice (some ⟨ga, 0, none⟩) (64 * k) gc, .slice none 0 0] 33 (0, 0)) := (hg4.block _ (by have := HB1.out.size; show w2.heap.size < W1.heap.size; omega) (fun e => hnd e.symm)).trans hd1.out
      have hn4 : w4.heap[w.heap.size]? = some (.cells #[.slice none 0 0, .slice none 0 0] 33 (0, 0)) := (hg4.block _ (by have := HB1.out.size; have := HS2.out; show w.heap.size < W1.heap.size; omega) (fun e => hnn4 e.symm)).trans ((HB1.out.block _ (by have := HS2.out; omega)).trans hnn.out)
      have hb4 : Below w.heap.size w w4 := ((hbl.out.trans (HB1.out.mono hbl.out.size)).drew).grown hg4 (by have := HB1.out.size; have := hbl.out.size; show w.heap.size ≤ W1.heap.size; omega) (fun g hg => (ho1.out.lt g hg).1)
      obtain ⟨m1, m2, m3, m4⟩ := two_cells hd4
      have hfin : Hid ((w4.setCell ⟨w2.heap.size, 0, none⟩ (.slice (some ⟨g', 0, none⟩) (64 * k + 64) cap')).heap[w2.heap.size]? = some (.cells #[.slice (some ⟨g', 0, none⟩) (64 * (k + 1)) cap', .slice none 0 0] 33 (0, 0))) := by
        show _ = _
        rw [show 64 * (k + 1) = 64 * k + 64 by omega]
        simp [World.setCell, Array.getElem?_modify, hd4]
      have ks := Kept.setCell w4 ⟨w2.heap.size, 0, none⟩ (.slice (some ⟨g', 0, none⟩) (64 * k + 64) cap') (fun g => g = w2.heap.size) rfl
      have hfn : Hid ((w4.setCell ⟨w2.heap.size, 0, none⟩ (.slice (some ⟨g', 0, none⟩) (64 * k + 64) cap')).heap[w.heap.size]? = some (.cells #[.slice none 0 0, .slice none 0 0] 33 (0, 0))) := (ks.block _ (Array.getElem?_eq_some_iff.1 hn4).1 (by have := HS2.out; omega)).trans hn4
      have hfo : Hid ((w4.setCell ⟨w2.heap.size, 0, none⟩ (.slice (some ⟨g', 0, none⟩) (64 * k + 64) cap')).ownsRow w.heap.size 5 1 (.slice (some ⟨g', 0, none⟩) (64 * (k + 1)) cap') (64 * (k + 1)) (u8s (xs.take (64 * (k + 1))))) := by
        show World.ownsRow _ _ _ _ _ _ _
        rw [show 64 * (k + 1) = 64 * k + 64 by omega] at hown4 ⊢
        exact row_kept hown4 ks (fun g hg hh => by subst hh; exact tag_neD hown4 hd4 (fun cur => cells_neD (by decide)) hg)
      have hfb : Hid (Below w.heap.size w (w4.setCell ⟨w2.heap.size, 0, none⟩ (.slice (some ⟨g', 0, none⟩) (64 * k + 64) cap'))) := hb4.setCell (by show w.heap.size ≤ w2.heap.size; have := HS2.out; omega) _
      refine hK.out _ _ trivial (fun _ => ?_)
      clear hK K hown4 hg4 hd4 hn4 hb4 ks hnd hnn4 HRR ho1 HT
      refine wpAnyH_take (i := 4) (v := .pointer (some ⟨w2.heap.size, 0, none⟩)) rfl (by kernel_rfl) (by kernel_rfl) (by kernel_rfl) (fun _ _ _ h => h) (Or.inl ⟨rfl, fun V hV => by go_simp⟩) trivial ?_
      refine wpAnyH_ready (rs := [5]) (by kernel_rfl) (by simp) (AllReadyH.cons rfl (fun K hK => ?_) AllReadyH.nil)
      go_simp
      refine hK.out _ _ trivial (fun _ => ?_)
      refine wpAnyH_done (by kernel_rfl) ?_ _
      clear hK K
      go_wp2
      go_roundw
      case rel => exact ⟨k + 1, g', cap', by omega, by go_num, hfin, hfn, hfo, hfb⟩
      case measure => simp [intOf]; omega
    · obtain rfl : nb = k := by omega
      have hot : u8s (xs.take (64 * nb)) = u8s xs := by rw [List.take_of_length_le (by have := cd.len; omega)]
      have ho5 : Hid (wr.ownsRow w.heap.size 5 1 (.slice (some ⟨ga, 0, none⟩) (64 * nb) gc) (64 * nb) (u8s xs)) := by
        show World.ownsRow _ _ _ _ _ _ _
        have := ho.out
        rwa [hot] at this
      have HCAP : Hid (64 * nb ≤ gc) := by obtain ⟨_, _, h, _⟩ := owns_range ho5.out 0 0 (by omega); exact h
      obtain ⟨u1, u2, u3, _⟩ := cells3 cd.cell
      have HX : Hid (xs.length = nb * 64) := cd.len
      have HPA : Hid (PAcc (fun _ => 0) (fun g => g = w.heap.size ∨ g = w2.heap.size ∨ g = ga) w.heap.size wr (.slice none 0 0) []) := PAcc.nil _ _ _
      obtain ⟨iw, hiw, hw0, hw1, hw2⟩ := info_parts infoWr
      obtain ⟨i65, hi65, hz65, _, _⟩ := info_parts info93
      clear cd hot ho
      go_wp2
      go_loopw [36] (fun i wr => ∃ (k : Nat) (T : Nat → Nat) (vs : List WV) (pa : Option Addr) (pc : Nat), k ≤ ws.length ∧ i = .int .i64 k ∧ Hid (vs.length = k ∧ wVal vs = ws.take k) ∧ Hid (wr.heap[w2.heap.size]? = some (.cells #[.slice (some ⟨ga, 0, none⟩) (64 * nb) gc, .slice pa k pc] 33 (0, 0))) ∧ Hid (wr.heap[w.heap.size]? = some (.cells #[.slice none 0 0, .slice none 0 0] 33 (0, 0))) ∧ Hid (wr.ownsRow w.heap.size 5 1 (.slice (some ⟨ga, 0, none⟩) (64 * nb) gc) (64 * nb) (u8s xs)) ∧ Hid (PAcc T (fun g => g = w.heap.size ∨ g = w2.heap.size ∨ g = ga) w.heap.size wr (.slice pa k pc) vs) ∧ Hid (Below w.heap.size w wr)) (fun i _ => ws.length - (intOf i).toNat)
      case atStart => exact ⟨0, _, [], none, 0, Nat.zero_le _, rfl, ⟨rfl, rfl⟩, hd, hnn, ho5, HPA, hbl⟩
      case round =>
        clear hd hnn ho5 HPA hbl u1 u2 u3 sw
        obtain ⟨k, T, vs, pa, pc, hk, rfl, hvs, hd, hnn, ho, hpa, hbl⟩ := hrel
        have cd := H.out.below hbl.out
        have sw : w2.heap.size < wr.heap.size := (Array.getElem?_eq_some_iff.1 hd.out).1
        by_cases hlt : k < ws.length
        · obtain ⟨x, hx⟩ : ∃ x, ws[k]? = some x := ⟨_, List.getElem?_eq_getElem hlt⟩
          have hX : x.2.length = 64 := (cd.lens x (List.mem_of_getElem? hx)).1
          obtain ⟨gW, e1, _, rng0⟩ := owns_range cd.wr (k * 65) 65 (by omega)
          rw [cws_at (fun y hy => (cd.lens y hy).1) hx] at rng0
          subst e1
          have hXs : (cwL x).toArray.size = 65 := by rw [List.size_toArray, cwL_len _ hX]
          have h1X : (cwL x).toArray.all (·.oneCell') = true := all_oneCell_toArray (cwL_one _)
          have gWl : gW < wr.heap.size := World.block_lt_of_cell? wr _ (rng0 0 (.int .i64 x.1) (by simp [cwL]))
          obtain ⟨W0, hW0⟩ : ∃ W0, wr.alloc (Obj.cells z65.toArray 93) = W0 := ⟨_, rfl⟩
          have hb0 : Below wr.heap.size wr W0 := by rw [← hW0]; exact (Below.refl _ wr).alloc (Nat.le_refl _) _
          have g3 : W0.heap[wr.heap.size]? = some (.cells z65.toArray 93 (0, 0)) := by rw [← hW0]; exact heap_alloc_new wr _
          obtain ⟨W1, hW1⟩ : ∃ W1, W0.setRow wr.heap.size (cwL x).toArray = W1 := ⟨_, rfl⟩
          have g4 : W1.heap[wr.heap.size]? = some (.cells (cwL x).toArray 93 (0, 0)) := by rw [← hW1]; exact setRow_heap W0 wr.heap.size _ _ 93 _ g3
          have hb1 : Below wr.heap.size wr W1 := by rw [← hW1]; exact below_setRow hb0 (Nat.le_refl _) _
          have szW : wr.heap.size < W1.heap.size := (Array.getElem?_eq_some_iff.1 g4).1
          have hd1 : Hid (W1.heap[w2.heap.size]? = some (.cells #[.slice (some ⟨ga, 0, none⟩) (64 * nb) gc, .slice pa k pc] 33 (0, 0))) := (hb1.block _ sw).trans hd.out
          have hn1 : Hid (W1.heap[w.heap.size]? = some (.cells #[.slice none 0 0, .slice none 0 0] 33 (0, 0))) := (hb1.block _ (by have := HS2.out; omega)).trans hnn.out
          obtain ⟨d1, d2, d3, d4⟩ := two_cells hd1.out
          have hrow : ∀ j v, (cwL x)[j]? = some v → W1.cell? ⟨wr.heap.size, j, none⟩ = some v := fun j v hv => by
            rw [cell_of_row W1 wr.heap.size j _ _ _ g4]; simpa using hv
          have c0 : W1.drew.cell? ⟨wr.heap.size, 0, none⟩ = some (.int .i64 x.1) := hrow 0 _ (by simp [cwL])
          have rr : Hid (W1.drew.rangeAt wr.heap.size 1 (u8s x.2)) := fun j v hv => by
            rw [Nat.add_comm]
            exact hrow (j + 1) v (by simpa [cwL] using hv)
          have hpa1 : Hid (PAcc T (fun g => g = w.heap.size ∨ g = w2.heap.size ∨ g = ga) w.heap.size W1 (.slice pa k pc) vs) := hpa.out.kept (Kept.of_below hb1 (fun _ => False)) (fun _ h => h.elim)
          have ho1 : Hid (W1.ownsRow w.heap.size 5 1 (.slice (some ⟨ga, 0, none⟩) (64 * nb) gc) (64 * nb) (u8s xs)) := row_kept ho.out (Kept.of_below hb1 (fun _ => False)) (fun _ _ => id)
          have HB1 : Hid (Below w.heap.size w W1) := hbl.out.trans (hb1.mono hbl.out.size)
          have rng : wr.rangeAt gW (k * 65) (cwL x) := rng0
          obtain ⟨u1, u2, u3, _⟩ := cells3 cd.cell
          have hzv : ∀ W, (zeroValue 93).run Tryz.prog W = .ok (.agg z65.toArray) W := fun W => by simp [zeroValue, typeInfo, hi65, hz65]
          have g4 : Hid (W1.heap[wr.heap.size]? = some (.cells (cwL x).toArray 93 (0, 0))) := g4
          clear cd hb1 rng0 hrow
          go_wp2_with (first
            | (refine wpList_load_mid rfl 93 _ rfl gW (k * 65) rfl (cwL x) _ rng Tryz.underlying93 rfl (by rw [cwL_len _ hX]; exact infoCW) ?_)
            | (refine wpList_store_row rfl 93 _ _ rfl wr.heap.size (cwL x).toArray rfl rfl 93 _ g3 (by rw [hXs]; exact infoCW) (by rw [hXs]; rfl) h1X ?_))
          try rw [hW1]
          clear hW0 hW1 hb0 g3 rng
          refine wp_region_held_drew (S := fun V => V.cell? ⟨wr.heap.size, 0, none⟩ = some (.int .i64 x.1)) (by kernel_rfl) c0 (fun hS => ?_)
          refine wpAnyH_take (i := 0) (v := .pointer (some ⟨w2.heap.size, 1, none⟩)) rfl (by kernel_rfl) (by kernel_rfl) (by kernel_rfl) (fun _ _ _ h => h) (Or.inl ⟨rfl, fun V hV => by go_simp⟩) hS ?_
          refine wpAnyH_take (i := 2) (v := .pointer (some ⟨wr.heap.size, 0, none⟩)) rfl (by kernel_rfl) (by kernel_rfl) (by kernel_rfl) (fun _ _ _ h => h) (Or.inl ⟨rfl, fun V hV => by go_simp⟩) hS ?_
          refine wpAnyH_take (i := 3) (v := .int .i64 x.1) rfl (by kernel_rfl) (by kernel_rfl) (by kernel_rfl) (fun _ _ _ h => h) (Or.inl ⟨rfl, fun V hV => by go_simp⟩) hS ?_
          refine wpAnyH_take (i := 4) (v := .pointer (some ⟨wr.heap.size, 1, none⟩)) rfl (by kernel_rfl) (by kernel_rfl) (by kernel_rfl) (fun _ _ _ h => h) (Or.inl ⟨rfl, fun V hV => by go_simp⟩) hS ?_
          refine wpAnyH_take (i := 5) (v := .slice (some ⟨wr.heap.size, 1, none⟩) 64 64) rfl (by kernel_rfl) (by kernel_rfl) (by kernel_rfl) (fun _ _ _ h => h) (Or.inl ⟨rfl, fun V hV => by go_simp⟩) hS ?_
          refine wpAnyH_ready (rs := [1, 6]) (by kernel_rfl) (by simp) (AllReadyH.cons rfl (fun K hK => ?_) (AllReadyH.cons rfl (fun K hK => ?_) AllReadyH.nil))
          · go_simp
            refine hK.out _ _ hS (fun hS => ?_)
            clear hK K
            refine wpAnyH_ready (rs := [6]) (by kernel_rfl) (by simp) (AllReadyH.cons rfl (fun K hK => ?_) AllReadyH.nil)
            go_simp
            refine (clone_any wr.heap.size 1 64 x.2 _ rr.out hX).mono ?_
            rintro e w5 ⟨gn, cn, rfl, hown5, hb5⟩
            have c5 : w5.cell? ⟨wr.heap.size, 0, none⟩ = some (.int .i64 x.1) := (hb5.cell (p := ⟨wr.heap.size, 0, none⟩) (by show wr.heap.size < W1.heap.size; omega)).trans c0
            have c5' : (w5.alloc (Obj.cells #[.int .i64 x.1, .slice (some ⟨gn, 0, none⟩) 64 cn] 96)).cell? ⟨wr.heap.size, 0, none⟩ = some (.int .i64 x.1) := (((Below.refl _ w5).alloc (Nat.le_refl _) _).cell (p := ⟨wr.heap.size, 0, none⟩) (World.block_lt_of_cell? w5 _ c5)).trans c5
            have d5 : w5.cell? ⟨w2.heap.size, 1, none⟩ = some (.slice pa k pc) := (hb5.cell (p := ⟨w2.heap.size, 1, none⟩) (by show w2.heap.size < W1.heap.size; omega)).trans d2
            have h5 : Hid (w5.ownsRow W1.heap.size 5 1 (.slice (some ⟨gn, 0, none⟩) 64 cn) 64 (u8s x.2) ∧ Below W1.heap.size W1 w5) := ⟨hown5, (Below.refl _ W1).drew.trans hb5⟩
            have HB5 : Hid (Below w.heap.size w w5) := HB1.out.trans (h5.out.2.mono HB1.out.size)
            have hrow5 : Hid ((w5.alloc (Obj.cells #[.int .i64 x.1, .slice (some ⟨gn, 0, none⟩) 64 cn] 96)).ownsRow w.heap.size 96 2 (.slice pa k pc) k (wvL vs)) := by
              show World.ownsRow _ _ _ _ _ _ _
              have := hpa1.out.row
              rw [hvs.out.1] at this
              exact (row_kept this (Kept.of_below h5.out.2 (fun _ => False)) (fun _ _ => id)).alloc _
            have lt5 : w2.heap.size < w5.heap.size := World.block_lt_of_cell? w5 _ d5
            clear hown5 hb5
            go_simp
            refine hK.out _ _ c5 (fun hS => ?_)
            clear hK K
            refine wpAnyH_ready (rs := [7]) (by kernel_rfl) (by simp) (AllReadyH.cons rfl (fun K hK => ?_) AllReadyH.nil)
            go_simp
            refine hK.out _ _ hS (fun hS => ?_)
            clear hK K
            refine wpAnyH_ready (rs := [8]) (by kernel_rfl) (by simp) (AllReadyH.cons rfl (fun K hK => ?_) AllReadyH.nil)
            go_simp
            refine hK.out _ _ c5' (fun hS => ?_)
            clear hK K
            refine wpAnyH_ready (rs := [9]) (by kernel_rfl) (by simp) (AllReadyH.cons rfl (fun K hK => ?_) AllReadyH.nil)
            refine if_wanted rfl (wp_append_own _ (.tmp 41) (.tmp 48) 31 rfl w.heap.size 96 iw (.agg #[.int .i64 0, .slice none 0 0]) 2 32 Tryz.underlying31 hiw hw0 hw1 hw2 rfl (by decide) (.slice pa k pc) k (wvL vs) rfl hrow5.out ⟨w5.heap.size, 0, none⟩ 1 1 [.int .i64 x.1, .slice (some ⟨gn, 0, none⟩) 64 cn] rfl rfl (two_new w5 _ _ _) (two_one _ _) (by unfold maxLen; omega) (by omega) (by have := HB5.out.size; simp; omega) (fun v' w6 hown6 hg6 _ => ?_))
            obtain ⟨g', cap', rfl⟩ : ∃ g' cap', v' = .slice (some ⟨g', 0, none⟩) (k + 1) cap' := by
              rcases hown6.2 with ⟨_, h0⟩ | ⟨g', cap', cur, e, _⟩
              · omega
              · exact ⟨g', cap', e⟩
            obtain ⟨T', hd6, f1, f2, f3, f4, f5, f6, f7, f8⟩ := disk_step hd1.out hn1.out ho1.out hpa1.out HB1.out (by have := HS2.out; omega) sw szW g4.out h5.out.1 h5.out.2 hg6 hown6 hvs.out.1 hvs.out.2 hx hX
            obtain ⟨m1, m2, m3, m4⟩ := two_cells hd6
            have F1 := Hid.out f1
            have HF : Hid (_ ∧ _ ∧ _ ∧ _ ∧ _ ∧ _) := ⟨f1, f2, f3, f4, f5, f6⟩
            refine hK.out _ _ (f7 _ c0) (fun hS => ?_)
            clear hK K hown6 hg6 hd6 f1 f2 f3 f4 f5 f6 F1 hrow5 h5
            refine wpAnyH_take (i := 10) (v := .pointer (some ⟨w2.heap.size, 1, none⟩)) rfl (by kernel_rfl) (by kernel_rfl) (by kernel_rfl) (fun _ _ _ h => h) (Or.inl ⟨rfl, fun V hV => by go_simp⟩) hS ?_
            refine wpAnyH_ready (rs := [11]) (by kernel_rfl) (by simp) (AllReadyH.cons rfl (fun K hK => ?_) AllReadyH.nil)
            go_simp
            refine hK.out _ _ (f8 _ c0) (fun _ => ?_)
            refine wpAnyH_done (by kernel_rfl) ?_ _
            clear hK K hS
            go_wp2
            go_roundw
            case rel => exact ⟨k + 1, T', vs ++ [(⟨x.1, some ⟨gn, 0, none⟩, 64, cn, x.2⟩ : WV)], some ⟨g', 0, none⟩, cap', by omega, by go_num, HF.out.2.2.2.2.2, HF.out.1, HF.out.2.1, HF.out.2.2.1, HF.out.2.2.2.1, HF.out.2.2.2.2.1⟩
            case measure => simp [intOf]; omega
          · go_simp
            refine (clone_any wr.heap.size 1 64 x.2 _ rr.out hX).mono ?_
            rintro e w5 ⟨gn, cn, rfl, hown5, hb5⟩
            have c5 : w5.cell? ⟨wr.heap.size, 0, none⟩ = some (.int .i64 x.1) := (hb5.cell (p := ⟨wr.heap.size, 0, none⟩) (by show wr.heap.size < W1.heap.size; omega)).trans c0
            have c5' : (w5.alloc (Obj.cells #[.int .i64 x.1, .slice (some ⟨gn, 0, none⟩) 64 cn] 96)).cell? ⟨wr.heap.size, 0, none⟩ = some (.int .i64 x.1) := (((Below.refl _ w5).alloc (Nat.le_refl _) _).cell (p := ⟨wr.heap.size, 0, none⟩) (World.block_lt_of_cell? w5 _ c5)).trans c5
            have d5 : w5.cell? ⟨w2.heap.size, 1, none⟩ = some (.slice pa k pc) := (hb5.cell (p := ⟨w2.heap.size, 1, none⟩) (by show w2.heap.size < W1.heap.size; omega)).trans d2
            have h5 : Hid (w5.ownsRow W1.heap.size 5 1 (.slice (some ⟨gn, 0, none⟩) 64 cn) 64 (u8s x.2) ∧ Below W1.heap.size W1 w5) := ⟨hown5, (Below.refl _ W1).drew.trans hb5⟩
            have HB5 : Hid (Below w.heap.size w w5) := HB1.out.trans (h5.out.2.mono HB1.out.size)
            have hrow5 : Hid ((w5.alloc (Obj.cells #[.int .i64 x.1, .slice (some ⟨gn, 0, none⟩) 64 cn] 96)).ownsRow w.heap.size 96 2 (.slice pa k pc) k (wvL vs)) := by
              show World.ownsRow _ _ _ _ _ _ _
              have := hpa1.out.row
              rw [hvs.out.1] at this
              exact (row_kept this (Kept.of_below h5.out.2 (fun _ => False)) (fun _ _ => id)).alloc _
            have lt5 : w2.heap.size < w5.heap.size := World.block_lt_of_cell? w5 _ d5
            clear hown5 hb5
            go_simp
            refine hK.out _ _ c5 (fun hS => ?_)
            clear hK K
            refine wpAnyH_take (i := 7) (v := .agg #[.int .i64 x.1, .slice (some ⟨gn, 0, none⟩) 64 cn]) rfl (by kernel_rfl) (by kernel_rfl) (by kernel_rfl) (fun _ _ _ h => h) (Or.inl ⟨rfl, fun V hV => by go_simp⟩) hS ?_
            refine wpAnyH_ready (rs := [1, 8]) (by kernel_rfl) (by simp) (AllReadyH.cons rfl (fun K hK => ?_) (AllReadyH.cons rfl (fun K hK => ?_) AllReadyH.nil))
            · go_simp
              refine hK.out _ _ c5 (fun hS => ?_)
              clear hK K
              refine wpAnyH_ready (rs := [8]) (by kernel_rfl) (by simp) (AllReadyH.cons rfl (fun K hK => ?_) AllReadyH.nil)
              go_simp
              refine hK.out _ _ c5' (fun hS => ?_)
              clear hK K
              refine wpAnyH_ready (rs := [9]) (by kernel_rfl) (by simp) (AllReadyH.cons rfl (fun K hK => ?_) AllReadyH.nil)
              refine if_wanted rfl (wp_append_own _ (.tmp 41) (.tmp 48) 31 rfl w.heap.size 96 iw (.agg #[.int .i64 0, .slice none 0 0]) 2 32 Tryz.underlying31 hiw hw0 hw1 hw2 rfl (by decide) (.slice pa k pc) k (wvL vs) rfl hrow5.out ⟨w5.heap.size, 0, none⟩ 1 1 [.int .i64 x.1, .slice (some ⟨gn, 0, none⟩) 64 cn] rfl rfl (two_new w5 _ _ _) (two_one _ _) (by unfold maxLen; omega) (by omega) (by have := HB5.out.size; simp; omega) (fun v' w6 hown6 hg6 _ => ?_))
              obtain ⟨g', cap', rfl⟩ : ∃ g' cap', v' = .slice (some ⟨g', 0, none⟩) (k + 1) cap' := by
                rcases hown6.2 with ⟨_, h0⟩ | ⟨g', cap', cur, e, _⟩
                · omega
                · exact ⟨g', cap', e⟩
              obtain ⟨T', hd6, f1, f2, f3, f4, f5, f6, f7, f8⟩ := disk_step hd1.out hn1.out ho1.out hpa1.out HB1.out (by have := HS2.out; omega) sw szW g4.out h5.out.1 h5.out.2 hg6 hown6 hvs.out.1 hvs.out.2 hx hX
              obtain ⟨m1, m2, m3, m4⟩ := two_cells hd6
              have F1 := Hid.out f1
              have HF : Hid (_ ∧ _ ∧ _ ∧ _ ∧ _ ∧ _) := ⟨f1, f2, f3, f4, f5, f6⟩
              refine hK.out _ _ (f7 _ c0) (fun hS => ?_)
              clear hK K hown6 hg6 hd6 f1 f2 f3 f4 f5 f6 F1 hrow5 h5
              refine wpAnyH_take (i := 10) (v := .pointer (some ⟨w2.heap.size, 1, none⟩)) rfl (by kernel_rfl) (by kernel_rfl) (by kernel_rfl) (fun _ _ _ h => h) (Or.inl ⟨rfl, fun V hV => by go_simp⟩) hS ?_
              refine wpAnyH_ready (rs := [11]) (by kernel_rfl) (by simp) (AllReadyH.cons rfl (fun K hK => ?_) AllReadyH.nil)
              go_simp
              refine hK.out _ _ (f8 _ c0) (fun _ => ?_)
              refine wpAnyH_done (by kernel_rfl) ?_ _
              clear hK K hS
              go_wp2
              go_roundw
              case rel => exact ⟨k + 1, T', vs ++ [(⟨x.1, some ⟨gn, 0, none⟩, 64, cn, x.2⟩ : WV)], some ⟨g', 0, none⟩, cap', by omega, by go_num, HF.out.2.2.2.2.2, HF.out.1, HF.out.2.1, HF.out.2.2.1, HF.out.2.2.2.1, HF.out.2.2.2.2.1⟩
              case measure => simp [intOf]; omega
            · go_simp
              refine hK.out _ _ c5' (fun hS => ?_)
              clear hK K
              refine wpAnyH_ready (rs := [1]) (by kernel_rfl) (by simp) (AllReadyH.cons rfl (fun K hK => ?_) AllReadyH.nil)
              go_simp
              refine hK.out _ _ c5' (fun hS => ?_)
              clear hK K
              refine wpAnyH_ready (rs := [9]) (by kernel_rfl) (by simp) (AllReadyH.cons rfl (fun K hK => ?_) AllReadyH.nil)
              refine if_wanted rfl (wp_append_own _ (.tmp 41) (.tmp 48) 31 rfl w.heap.size 96 iw (.agg #[.int .i64 0, .slice none 0 0]) 2 32 Tryz.underlying31 hiw hw0 hw1 hw2 rfl (by decide) (.slice pa k pc) k (wvL vs) rfl hrow5.out ⟨w5.heap.size, 0, none⟩ 1 1 [.int .i64 x.1, .slice (some ⟨gn, 0, none⟩) 64 cn] rfl rfl (two_new w5 _ _ _) (two_one _ _) (by unfold maxLen; omega) (by omega) (by have := HB5.out.size; simp; omega) (fun v' w6 hown6 hg6 _ => ?_))
              obtain ⟨g', cap', rfl⟩ : ∃ g' cap', v' = .slice (some ⟨g', 0, none⟩) (k + 1) cap' := by
                rcases hown6.2 with ⟨_, h0⟩ | ⟨g', cap', cur, e, _⟩
                · omega
                · exact ⟨g', cap', e⟩
              obtain ⟨T', hd6, f1, f2, f3, f4, f5, f6, f7, f8⟩ := disk_step hd1.out hn1.out ho1.out hpa1.out HB1.out (by have := HS2.out; omega) sw szW g4.out h5.out.1 h5.out.2 hg6 hown6 hvs.out.1 hvs.out.2 hx hX
              obtain ⟨m1, m2, m3, m4⟩ := two_cells hd6
              have F1 := Hid.out f1
              have HF : Hid (_ ∧ _ ∧ _ ∧ _ ∧ _ ∧ _) := ⟨f1, f2, f3, f4, f5, f6⟩
              refine hK.out _ _ (f7 _ c0) (fun hS => ?_)
              clear hK K hown6 hg6 hd6 f1 f2 f3 f4 f5 f6 F1 hrow5 h5
              refine wpAnyH_take (i := 10) (v := .pointer (some ⟨w2.heap.size, 1, none⟩)) rfl (by kernel_rfl) (by kernel_rfl) (by kernel_rfl) (fun _ _ _ h => h) (Or.inl ⟨rfl, fun V hV => by go_simp⟩) hS ?_
              refine wpAnyH_ready (rs := [11]) (by kernel_rfl) (by simp) (AllReadyH.cons rfl (fun K hK => ?_) AllReadyH.nil)
              go_simp
              refine hK.out _ _ (f8 _ c0) (fun _ => ?_)
              refine wpAnyH_done (by kernel_rfl) ?_ _
              clear hK K hS
              go_wp2
              go_roundw
              case rel => exact ⟨k + 1, T', vs ++ [(⟨x.1, some ⟨gn, 0, none⟩, 64, cn, x.2⟩ : WV)], some ⟨g', 0, none⟩, cap', by omega, by go_num, HF.out.2.2.2.2.2, HF.out.1, HF.out.2.1, HF.out.2.2.1, HF.out.2.2.2.1, HF.out.2.2.2.2.1⟩
              case measure => simp [intOf]; omega
        · obtain rfl : k = ws.length := by omega
          obtain ⟨d1, d2, d3, d4⟩ := two_cells hd.out
          obtain ⟨n1, n2, n3, n4⟩ := two_cells hnn.out
          obtain ⟨u1, u2, u3, _⟩ := cells3 cd.cell
          have hfin : ∀ u1 u2, ∃ T, DOwn T w.heap.size ((wr.setCell ⟨w.heap.size, 0, none⟩ u1).setCell ⟨w.heap.size, 1, none⟩ u2).heap.size ((wr.setCell ⟨w.heap.size, 0, none⟩ u1).setCell ⟨w.heap.size, 1, none⟩ u2) (some ⟨ga, 0, none⟩) (nb * 64) xs pa ws.length vs ∧ Below w.heap.size w ((wr.setCell ⟨w.heap.size, 0, none⟩ u1).setCell ⟨w.heap.size, 1, none⟩ u2) := fun u1 u2 => by
            have ks : Kept (fun g => g = w.heap.size) wr ((wr.setCell ⟨w.heap.size, 0, none⟩ u1).setCell ⟨w.heap.size, 1, none⟩ u2) := (Kept.setCell wr ⟨w.heap.size, 0, none⟩ u1 (fun g => g = w.heap.size) rfl).trans (Kept.setCell _ ⟨w.heap.size, 1, none⟩ u2 (fun g => g = w.heap.size) rfl)
            have hB2 : Below w.heap.size w ((wr.setCell ⟨w.heap.size, 0, none⟩ u1).setCell ⟨w.heap.size, 1, none⟩ u2) := (hbl.out.setCell (Nat.le_refl _) _).setCell (Nat.le_refl _) _
            have hp2 := hpa.out.kept ks (fun g hg => by subst hg; exact hpa.out.z _ (.inl rfl))
            have hr2 := row_kept ho.out ks (fun g hg e => by subst e; exact tag_neD ho.out hnn.out (fun cur => cells_neD (by decide)) hg)
            have hsz : w.heap.size < wr.heap.size := (Array.getElem?_eq_some_iff.1 hnn.out).1
            have hks := ks.size
            generalize (wr.setCell ⟨w.heap.size, 0, none⟩ u1).setCell ⟨w.heap.size, 1, none⟩ u2 = F at *
            refine ⟨T, ⟨?_, hp2.own (by rw [hvs.out.1]), by omega, by omega, Nat.le_refl _⟩, hB2⟩
            obtain ⟨a9, c9, e9, r9⟩ := owns_row hr2
            injection e9 with e9
            subst e9
            rw [Nat.mul_comm] at r9
            refine ⟨r9.1, r9.2.imp id ?_⟩
            rintro ⟨g, off, e, hg, hc⟩
            injection e with e
            injection e with e1 e2
            subst e1; subst e2
            exact ⟨ga, 0, rfl, ⟨hp2.z ga (.inr (.inr rfl)), hg⟩, hc⟩
          have HFIN := Hid.out hfin
          clear cd hfin
          go_wp2
          rw [Nat.mul_comm 64 nb]
          refine bodyPost_ret (v := .agg #[.slice (some ⟨ga, 0, none⟩) (nb * 64) gc, .slice pa ws.length pc]) (by simp [results, Tryz.results11, go_sem, n1, n2]) rfl ?_
          obtain ⟨T9, h1, h2⟩ := HFIN (.slice (some ⟨ga, 0, none⟩) (nb * 64) gc) (.slice pa ws.length pc)
          exact ⟨T9, vs, ga, gc, pa, pc, rfl, h1, by have := hvs.out.2; rwa [List.take_of_length_le (Nat.le_refl _)] at this, by have := HCAP.out; omega, h2⟩
end Go.Proofs.YtonpdbajoidigaaGreatDoor
