/-
  FnBytes: the table drawn, as a list of some entries (out of Cht).
-/
import Derived.Test.YtkkammbfomiofaaDoorGe
namespace Go.Proofs.YtkkammbfomiofaaDoor
open Go.RowKit
set_option linter.unusedSimpArgs false
set_option linter.unusedVariables false

def enL (l : List (Int × Bool)) : List Value := l.flatMap fun x => [.int .i64 x.1, .bool x.2]
theorem enL_append (xs ys : List (Int × Bool)) : enL (xs ++ ys) = enL xs ++ enL ys := by simp [enL]
theorem enL_one (x : Int × Bool) : enL [x] = [.int .i64 x.1, .bool x.2] := by simp [enL]
theorem enL_len (ns : List (Int × Bool)) : (enL ns).length = ns.length * 2 := by
  induction ns with
  | nil => rfl
  | cons x ns ih => simp only [enL, List.flatMap_cons, List.length_append, List.length_cons, List.length_nil] at ih ⊢; omega
theorem enL_at (ns : List (Int × Bool)) : ∀ i, i < ns.length → (enL ns)[i * 2]? = some (.int .i64 (eA ns i)) ∧ (enL ns)[i * 2 + 1]? = some (.bool (eI ns i)) := by
  induction ns with
  | nil => intro i h; simp at h
  | cons x ns ih =>
    intro i h
    cases i with
    | zero => simp [enL, eA, eI]
    | succ i =>
      have := ih i (by simpa using h)
      have e1 : (i + 1) * 2 = i * 2 + 1 + 1 := by omega
      rw [e1]
      simpa [enL, eA, eI] using this
theorem owns_eread {w : World} {B n : Nat} {s : Value} {ns : List (Int × Bool)} (h : w.ownsRow B 38 2 s n (enL ns)) : ∃ a c, s = .slice a n c ∧ ERead w a n ns := by
  have hl : ns.length = n := by have := h.1; rw [enL_len] at this; omega
  have h' := h
  rcases h.2 with ⟨rfl, h0⟩ | ⟨g, cap, cur, rfl, hB, hg, hc, hm, hsz, ht⟩
  · exact ⟨none, 0, by rw [h0], hl, .inl h0⟩
  · refine ⟨some ⟨g, 0, none⟩, cap, rfl, hl, .inr ⟨g, 0, rfl, fun i hi => ?_⟩⟩
    obtain ⟨q1, q2⟩ := enL_at ns i (by omega)
    rw [Nat.zero_add, h'.cellAt _ (by omega), h'.cellAt _ (by omega)]
    exact ⟨q1, q2⟩
theorem two_newE {w : World} {x y : Value} {t : TypeId} : ∀ j u, [x, y][j]? = some u → (w.alloc (.cells #[x, y] t)).cell? ((⟨w.heap.size, 0, none⟩ : Addr).add j) = some u := by
  intro j u hj
  match j, hj with
  | 0, hj => simp at hj; subst hj; simp [Addr.add]
  | 1, hj => simp at hj; subst hj; simp [Addr.add]
theorem two_newE' {W : World} {m : Nat} (hs : W.heap.size = m) {x y : Value} {t : TypeId} : ∀ j u, [x, y][j]? = some u → (W.alloc (.cells #[x, y] t)).cell? ((⟨m, 0, none⟩ : Addr).add j) = some u := by subst hs; exact two_newE
theorem two_ent (x : Int) (b : Bool) : ∀ u ∈ [Value.int .i64 x, Value.bool b], u.oneCell' = true := by intro u hu; simp at hu; rcases hu with rfl | rfl <;> rfl
/-- The source, a list of entries of one's own and what is kept, in one. -/
structure Est (w W : World) (B N : Nat) (s : SV) (a : Option Addr) (n c : Nat) (es : List (Int × Bool)) : Prop where
  src : SrcF W B N s
  kp : Kept (fun g => g = B) w W
  own : W.ownsRow w.heap.size 38 2 (.slice a n c) n (enL es)
  hB : B < w.heap.size
  hN : N ≤ w.heap.size
section
variable {w W W' : World} {B N : Nat} {s s' : SV} {a : Option Addr} {n c : Nat} {es : List (Int × Bool)}
theorem Est.next (h : Est w W B N s a n c es) (hk : Kept (fun g => g = B) W W') (hs : SrcF W' B N s') : Est w W' B N s' a n c es :=
  ⟨hs, h.kp.trans hk, row_kept h.own hk (fun g hg e => by have h1 := (h.own.lt g hg).1; have h2 := h.hB; omega), h.hB, h.hN⟩
theorem Est.alloc (h : Est w W B N s a n c es) (o : Obj) : Est w (W.alloc o) B N s a n c es :=
  h.next (Kept.of_below ((Below.refl _ W).alloc (Nat.le_refl _) o) _) (h.src.below ((Below.refl _ W).alloc (Nat.le_refl _) o))
theorem Est.push (h : Est w W B N s a n c es) (hg : W.grownBy W' (Value.slice a n c).ownBlock) {v : Value} {x : Int} {b : Bool} (ho : W'.ownsRow w.heap.size 38 2 v (n + 1) (enL es ++ [.int .i64 x, .bool b])) :
    ∃ a' c', v = .slice a' (n + 1) c' ∧ Est w W' B N s a' (n + 1) c' (es ++ [(x, b)]) := by
  obtain ⟨a', c', rfl⟩ := owns_shape ho
  have hB := h.hB
  have hN := h.hN
  have hlt : ∀ g, (Value.slice a n c).ownBlock = some g → w.heap.size ≤ g := fun g hg => (h.own.lt g hg).1
  refine ⟨a', c', rfl, h.src.kept (grown_kept hg) (fun e => by have := hlt _ e; omega) (fun g hg e => by have := hlt _ e; omega), kept_grown h.kp hg hlt, ?_, hB, hN⟩
  rw [enL_append, enL_one]; exact ho
theorem Est.store (h : Est w W B N s a n c es) {L : Nat} (hL : w.heap.size ≤ L) (hne : ∀ g, (Value.slice a n c).ownBlock = some g → g ≠ L) (i : Nat) (u : Value) : Est w (W.setCell ⟨L, i, none⟩ u) B N s a n c es := by
  have hB := h.hB
  have hN := h.hN
  have kk : Kept (fun q => q = L) W (W.setCell ⟨L, i, none⟩ u) := Kept.setCell W ⟨L, i, none⟩ _ _ rfl
  exact ⟨h.src.kept kk (by omega) (fun q hq e => by omega), ⟨h.kp.1, h.kp.2, h.kp.3, by simpa using h.kp.size, fun j hj hjB => (heap_set_ne (by omega)).trans (h.kp.block j hj hjB)⟩, row_kept h.own kk (fun g hg e => hne g hg e), hB, hN⟩
theorem Est.set0 (h : Est w W B N s a n c es) {g : Nat} (ea : a = some ⟨g, 0, none⟩) (hn : 0 < n) (x : Int) (b : Bool) :
    (∃ y z, W.cell? ⟨g, 0, none⟩ = some (.int .i64 y) ∧ W.cell? ⟨g, 1, none⟩ = some (.bool z)) ∧ (W.frozen? ⟨g, 0, none⟩ = false ∧ W.frozen? ⟨g, 1, none⟩ = false) ∧ ∃ es', Est w ((W.setCell ⟨g, 0, none⟩ (.int .i64 x)).setCell ⟨g, 1, none⟩ (.bool b)) B N s a n c es' := by
  subst ea
  have hB := h.hB
  have hN := h.hN
  have hl : es.length = n := by have := h.own.1; rw [enL_len] at this; omega
  have hg := (h.own.lt g rfl).1
  have kk : Kept (fun q => q = g) W ((W.setCell ⟨g, 0, none⟩ (.int .i64 x)).setCell ⟨g, 1, none⟩ (.bool b)) := (Kept.setCell W ⟨g, 0, none⟩ _ (fun q => q = g) rfl).trans (Kept.setCell _ ⟨g, 1, none⟩ _ _ rfl)
  obtain ⟨e0, es0, rfl⟩ : ∃ e0 es0, es = e0 :: es0 := by
    cases es with
    | nil => simp at hl; omega
    | cons e0 es0 => exact ⟨_, _, rfl⟩
  refine ⟨?_, ?_, (x, b) :: es0, h.src.kept kk (by omega) (fun q hq e => by omega), ?_, ?_, hB, hN⟩
  · obtain ⟨a9, c9, e9, r9⟩ := owns_eread h.own
    injection e9 with e9 _ _
    subst e9
    obtain ⟨g', off, e', hc⟩ := r9.2.resolve_left (by omega)
    injection e' with e'
    injection e' with e1 e2
    subst e1; subst e2
    have := hc 0 hn
    exact ⟨_, _, this.1, this.2⟩
  · obtain ⟨cur, hc⟩ := owns_tag h.own (g := g) rfl
    constructor <;> simp [World.frozen?, hc]
  · exact ⟨h.kp.1, h.kp.2, h.kp.3, by simpa using h.kp.size, fun j hj hjB => ((heap_set_ne (by omega)).trans (heap_set_ne (by omega))).trans (h.kp.block j hj hjB)⟩
  · have hst : (W.setCells g 0 [.int .i64 x, .bool b]).ownsRow w.heap.size 38 2 (.slice (some ⟨g, 0, none⟩) n c) n (spl (enL (e0 :: es0)) 0 [.int .i64 x, .bool b]) := owns_setCells h.own 0 (by simp; omega)
    have e : spl (enL (e0 :: es0)) 0 [.int .i64 x, .bool b] = enL ((x, b) :: es0) := by simp [spl, enL]
    rw [e] at hst
    exact hst
theorem Est.addr (h : Est w W B N s a n c es) (hn : 0 < n) : ∃ g, a = some ⟨g, 0, none⟩ ∧ n ≤ c ∧ w.heap.size ≤ g := by
  obtain ⟨g, e, hc, _⟩ := owns_range h.own 0 0 hn
  exact ⟨g, e, hc, (h.own.lt g (by rw [e]; rfl)).1⟩
theorem Est.row (h : Est w W B N s a n c es) : ERead W a n es := by
  obtain ⟨a9, c9, e9, r9⟩ := owns_eread h.own
  injection e9 with e9 _ _
  subst e9
  exact r9
theorem Est.below (h : Est w W B N s a n c es) {K : Nat} (hK : K ≤ B) : Below K w W := h.kp.below (by have := h.hB; omega) (fun j hj => by omega)
theorem Est.ne (h : Est w W B N s a n c es) : ∀ g, (Value.slice a n c).ownBlock = some g → g ≠ W.heap.size := fun g hg => by have := (h.own.lt g hg).2; omega
end
/-- The entry's variable in block L. -/
structure Ev (W : World) (L : Nat) (x : Int) (b : Bool) : Prop where
  c0 : W.cell? ⟨L, 0, none⟩ = some (.int .i64 x)
  c1 : W.cell? ⟨L, 1, none⟩ = some (.bool b)
  f0 : W.frozen? ⟨L, 0, none⟩ = false
  f1 : W.frozen? ⟨L, 1, none⟩ = false
  lt : L < W.heap.size
theorem Ev.of {W : World} {L : Nat} {x : Int} {b : Bool} {t : TypeId} (h : W.heap[L]? = some (.cells #[.int .i64 x, .bool b] t (0, 0))) : Ev W L x b := by
  obtain ⟨h1, h2, h3, h4⟩ := two_cells h
  exact ⟨h1, h2, h3, h4, (Array.getElem?_eq_some_iff.1 h).1⟩
set_option maxHeartbeats 4000000 in
set_option maxRecDepth 100000 in
theorem l2DrawTable_any (B N : Nat) (s : SV) (w : World) (h : SrcF w B N s) (hN : N ≤ w.heap.size) :
    Calls Tryd.prog 27 #[.pointer (some ⟨B, 0, none⟩)] w fun e w' => ∃ a n c es s', e = .returned (.slice a n c) ∧ Est w w' B N s' a n c es ∧ n ≤ 1025 := by
  obtain ⟨i0, hi0, hz0, hz1, hz2⟩ := info_parts info38
  have hBl := h.lt
  have bo : Below w.heap.size w (w.alloc (Obj.cells #[] 38)) := (Below.refl _ w).alloc (Nat.le_refl _) _
  have HE : Hid (Est w (w.alloc (Obj.cells #[] 38)) B N s (some ⟨w.heap.size, 0, none⟩) 0 0 []) := ⟨h.below bo, Kept.of_below bo _, World.ownsRow_made w #[] 0 (Nat.le_refl _) (Nat.zero_le _) rfl, hBl, hN⟩
  clear bo h
  go_enter Tryd.func27, Tryd.ntmps27
  go_wp2_with fail
  refine (l1NextF_any B N 12 s _ HE.out.src (by omega) (by omega)).mono ?_
  rintro e w1 ⟨rfl, hs1, hk1⟩
  obtain ⟨y0, y1⟩ := SV.next_range (s := s) (m := 12) (by omega)
  obtain ⟨Y, hY⟩ : ∃ Y : Nat, s.next 12 = (Y : Int) := ⟨(s.next 12).toNat, by omega⟩
  have H1 := Hid.out (HE.out.next hk1 hs1)
  rw [hY] at y0 y1 ⊢
  have HC1 : Hid (∃ s', Est w w1 B N s' (some ⟨w.heap.size, 0, none⟩) 0 0 []) := ⟨_, H1⟩
  clear hs1 hk1 HE hY H1
  go_wp2
  go_loopw [3, 4] (fun o i wr => ∃ (k n : Nat) (ad : Option Addr) (c : Nat), n + k ≤ 11 ∧ o = .slice ad n c ∧ i = .int .i64 k ∧ Hid (∃ es s', Est w wr B N s' ad n c es)) (fun _ i _ => (intOf i).toNat)
  case atStart => exact ⟨Y, 0, _, _, by omega, rfl, rfl, by obtain ⟨s', h⟩ := HC1.out; exact ⟨[], s', h⟩⟩
  case round =>
    obtain ⟨k, n, ad, c, hk, rfl, rfl, HC⟩ := hrel
    clear HC1 y0 y1
    by_cases hlt : 0 < k
    · obtain ⟨es, s1, hC⟩ := HC.out
      have HX : Hid (Est w wr B N s1 ad n c es) := hC
      clear hC HC
      go_wp2_with fail
      refine (l1NextF_any B N 40 s1 _ HX.out.src (by omega) (by omega)).mono ?_
      rintro e w2 ⟨rfl, hs2, hk2⟩
      have HX2 := Hid.out (HX.out.next hk2 hs2)
      generalize s1.next 40 = x at *
      generalize s1.rest 40 = s2 at *
      clear hs2 hk2 HX
      go_wp2_with fail
      refine (l1NextF_any B N 3 s2 _ HX2.src (by omega) (by omega)).mono ?_
      rintro e w3 ⟨rfl, hs3, hk3⟩
      have HX3 := Hid.out (HX2.next hk3 hs3)
      generalize s2.next 3 = z at *
      generalize s2.rest 3 = s3 at *
      clear hs3 hk3 HX2
      have hne := Hid.out HX3.ne
      have hLw := HX3.kp.size
      by_cases h8 : x < 8
      · have h8' := h8
        go_wp2_with fail
        have HX4 := Hid.out (HX3.alloc (Obj.cells #[.int .i64 0, .bool false] 38))
        have cL := heap_alloc_new w3 (Obj.cells #[.int .i64 0, .bool false] 38)
        refine (l1NextF_any B N 30 s3 _ HX4.src (by omega) (by omega)).mono ?_
        rintro e w5 ⟨rfl, hs5, hk5⟩
        have HX5 := Hid.out (HX4.next hk5 hs5)
        have cL5 := (hk5.block w3.heap.size (by simp) (by omega)).trans cL
        obtain ⟨L, hL⟩ : ∃ L, w3.heap.size = L := ⟨_, rfl⟩
        rw [hL] at hLw hne cL5 ⊢
        generalize s3.next 30 = y at *
        generalize s3.rest 30 = s5 at *
        clear hs5 hk5 HX4 cL HX3 hL
        obtain ⟨c0, c1, c2, c3⟩ := two_cells cL5
        have lL := (Array.getElem?_eq_some_iff.1 cL5).1
        by_cases hy : y = 0
        · subst hy
          clear c0 c1 c2 c3
          go_wp2_with fail
          refine (l1NextF_any B N 2 s5 _ HX5.src (by omega) (by omega)).mono ?_
          rintro e w6 ⟨rfl, hs6, hk6⟩
          obtain ⟨u0, u1⟩ := SV.next_range (s := s5) (m := 2) (by omega)
          have HX6 := Hid.out (HX5.next hk6 hs6)
          have cL6 := (hk6.block L lL (by omega)).trans cL5
          generalize s5.next 2 = q at *
          generalize s5.rest 2 = s6 at *
          clear hs6 hk6 HX5 cL5 lL
          obtain ⟨c0, c1, c2, c3⟩ := two_cells cL6
          have lL := (Array.getElem?_eq_some_iff.1 cL6).1
          have HX7 := Hid.out (HX6.store hLw hne 0 (.int .i64 (32767 + q)))
          clear HX6 cL6
          have hown := HX7.own
          have hwz := HX7.kp.size
          go_wp2_with (at_builtin; refine wpList_append_own _ rfl _ _ 31 rfl w.heap.size 38 i0 (.agg #[.int .i64 0, .bool false]) 2 16 Tryd.underlying31 hi0 hz0 hz1 hz2 rfl (by decide) _ _ _ rfl (hown.alloc _) ⟨w6.heap.size, 0, none⟩ 1 1 [.int .i64 (32767 + q), .bool false] rfl rfl (two_newE' (by simp)) (two_ent _ _) (by unfold maxLen; omega) (by omega) (by simp at hwz ⊢; omega) ?_)
          intro v' w9 hown9 hg9 _
          obtain ⟨a9, c9, rfl, hC9⟩ := (HX7.alloc _).push hg9 hown9
          have HC9 : Hid (∃ es s', Est w w9 B N s' a9 (n + 1) c9 es) := ⟨_, _, hC9⟩
          clear hC9 hown9 hg9 hown HX7
          go_wp2
          go_roundw
          case rel => exact ⟨k - 1, n + 1, a9, c9, by omega, rfl, by first | go_num | (congr 1; omega), HC9⟩
          case measure => simp [intOf]; omega
        · clear cL5
          have hown := HX5.own
          have hwz := HX5.kp.size
          go_wp2_with (at_builtin; refine wpList_append_own _ rfl _ _ 31 rfl w.heap.size 38 i0 (.agg #[.int .i64 0, .bool false]) 2 16 Tryd.underlying31 hi0 hz0 hz1 hz2 rfl (by decide) _ _ _ rfl (hown.alloc _) ⟨w5.heap.size, 0, none⟩ 1 1 [.int .i64 0, .bool false] rfl rfl two_newE (two_ent _ _) (by unfold maxLen; omega) (by omega) (by simp at hwz ⊢; omega) ?_)
          intro v' w9 hown9 hg9 _
          obtain ⟨a9, c9, rfl, hC9⟩ := (HX5.alloc _).push hg9 hown9
          have HC9 : Hid (∃ es s', Est w w9 B N s' a9 (n + 1) c9 es) := ⟨_, _, hC9⟩
          clear hC9 hown9 hg9 hown HX5
          go_wp2
          go_roundw
          case rel => exact ⟨k - 1, n + 1, a9, c9, by omega, rfl, by first | go_num | (congr 1; omega), HC9⟩
          case measure => simp [intOf]; omega
      · have h8' := h8
        go_wp2_with fail
        have HX4 := Hid.out (HX3.alloc (Obj.cells #[.int .i64 x, .bool (z == 0)] 38))
        have cL := heap_alloc_new w3 (Obj.cells #[.int .i64 x, .bool (z == 0)] 38)
        refine (l1NextF_any B N 30 s3 _ HX4.src (by omega) (by omega)).mono ?_
        rintro e w5 ⟨rfl, hs5, hk5⟩
        have HX5 := Hid.out (HX4.next hk5 hs5)
        have cL5 := (hk5.block w3.heap.size (by simp) (by omega)).trans cL
        obtain ⟨L, hL⟩ : ∃ L, w3.heap.size = L := ⟨_, rfl⟩
        rw [hL] at hLw hne cL5 ⊢
        generalize s3.next 30 = y at *
        generalize s3.rest 30 = s5 at *
        clear hs5 hk5 HX4 cL HX3 hL
        obtain ⟨c0, c1, c2, c3⟩ := two_cells cL5
        have lL := (Array.getElem?_eq_some_iff.1 cL5).1
        by_cases hy : y = 0
        · subst hy
          clear c0 c1 c2 c3
          go_wp2_with fail
          refine (l1NextF_any B N 2 s5 _ HX5.src (by omega) (by omega)).mono ?_
          rintro e w6 ⟨rfl, hs6, hk6⟩
          obtain ⟨u0, u1⟩ := SV.next_range (s := s5) (m := 2) (by omega)
          have HX6 := Hid.out (HX5.next hk6 hs6)
          have cL6 := (hk6.block L lL (by omega)).trans cL5
          generalize s5.next 2 = q at *
          generalize s5.rest 2 = s6 at *
          clear hs6 hk6 HX5 cL5 lL
          obtain ⟨c0, c1, c2, c3⟩ := two_cells cL6
          have lL := (Array.getElem?_eq_some_iff.1 cL6).1
          have HX7 := Hid.out (HX6.store hLw hne 0 (.int .i64 (32767 + q)))
          clear HX6 cL6
          have hown := HX7.own
          have hwz := HX7.kp.size
          go_wp2_with (at_builtin; refine wpList_append_own _ rfl _ _ 31 rfl w.heap.size 38 i0 (.agg #[.int .i64 0, .bool false]) 2 16 Tryd.underlying31 hi0 hz0 hz1 hz2 rfl (by decide) _ _ _ rfl (hown.alloc _) ⟨w6.heap.size, 0, none⟩ 1 1 [.int .i64 (32767 + q), .bool (z == 0)] rfl rfl (two_newE' (by simp)) (two_ent _ _) (by unfold maxLen; omega) (by omega) (by simp at hwz ⊢; omega) ?_)
          intro v' w9 hown9 hg9 _
          obtain ⟨a9, c9, rfl, hC9⟩ := (HX7.alloc _).push hg9 hown9
          have HC9 : Hid (∃ es s', Est w w9 B N s' a9 (n + 1) c9 es) := ⟨_, _, hC9⟩
          clear hC9 hown9 hg9 hown HX7
          go_wp2
          go_roundw
          case rel => exact ⟨k - 1, n + 1, a9, c9, by omega, rfl, by first | go_num | (congr 1; omega), HC9⟩
          case measure => simp [intOf]; omega
        · clear cL5
          have hown := HX5.own
          have hwz := HX5.kp.size
          go_wp2_with (at_builtin; refine wpList_append_own _ rfl _ _ 31 rfl w.heap.size 38 i0 (.agg #[.int .i64 0, .bool false]) 2 16 Tryd.underlying31 hi0 hz0 hz1 hz2 rfl (by decide) _ _ _ rfl (hown.alloc _) ⟨w5.heap.size, 0, none⟩ 1 1 [.int .i64 x, .bool (z == 0)] rfl rfl two_newE (two_ent _ _) (by unfold maxLen; omega) (by omega) (by simp at hwz ⊢; omega) ?_)
          intro v' w9 hown9 hg9 _
          obtain ⟨a9, c9, rfl, hC9⟩ := (HX5.alloc _).push hg9 hown9
          have HC9 : Hid (∃ es s', Est w w9 B N s' a9 (n + 1) c9 es) := ⟨_, _, hC9⟩
          clear hC9 hown9 hg9 hown HX5
          go_wp2
          go_roundw
          case rel => exact ⟨k - 1, n + 1, a9, c9, by omega, rfl, by first | go_num | (congr 1; omega), HC9⟩
          case measure => simp [intOf]; omega
    · obtain rfl : k = 0 := by omega
      obtain ⟨es, s1, hC⟩ := HC.out
      have HX : Hid (Est w wr B N s1 ad n c es) := hC
      clear hC HC
      go_wp2_with fail
      refine (l1NextF_any B N 30 s1 _ HX.out.src (by omega) (by omega)).mono ?_
      rintro e w2 ⟨rfl, hs2, hk2⟩
      have HX2 := Hid.out (HX.out.next hk2 hs2)
      generalize s1.next 30 = x at *
      generalize s1.rest 30 = s2 at *
      clear hs2 hk2 HX
      by_cases hx0 : x = 0
      · subst hx0
        go_wp2_with fail
        refine (l1NextF_any B N 2 s2 _ HX2.src (by omega) (by omega)).mono ?_
        rintro e w3 ⟨rfl, hs3, hk3⟩
        obtain ⟨u0, u1⟩ := SV.next_range (s := s2) (m := 2) (by omega)
        obtain ⟨Q, hQ⟩ : ∃ Q : Nat, s2.next 2 = (Q : Int) := ⟨(s2.next 2).toNat, by omega⟩
        have HX3 := Hid.out (HX2.next hk3 hs3)
        rw [hQ] at u0 u1 ⊢
        have HC3 : Hid (∃ es s', Est w w3 B N s' ad n c es) := ⟨_, _, HX3⟩
        clear hs3 hk3 HX2 hQ HX3
        go_wp2
        go_loopw [3] (fun o wr => ∃ (n : Nat) (ad : Option Addr) (c : Nat), n ≤ 1025 ∧ o = .slice ad n c ∧ Hid (∃ es s', Est w wr B N s' ad n c es)) (fun o _ => 1025 - lenOf o)
        case atStart => exact ⟨n, ad, c, by omega, rfl, HC3⟩
        case round =>
          clear HC3
          obtain ⟨n, ad, c, hn, rfl, HC⟩ := hrel
          obtain ⟨es, s1, hC⟩ := HC.out
          have HX := Hid.out hC
          clear hC HC
          by_cases hlt : (n : Int) < 1024 + (Q : Int)
          · have hnl : n ≤ 1024 := by omega
            have hown := HX.own
            have hwz := HX.kp.size
            go_wp2_with (at_builtin; refine wpList_append_own _ rfl _ _ 31 rfl w.heap.size 38 i0 (.agg #[.int .i64 0, .bool false]) 2 16 Tryd.underlying31 hi0 hz0 hz1 hz2 rfl (by decide) _ _ _ rfl (hown.alloc _) ⟨wr.heap.size, 0, none⟩ 1 1 [.int .i64 (n : Int), .bool false] rfl rfl two_newE (two_ent _ _) (by unfold maxLen; omega) (by omega) (by simp; omega) ?_)
            intro v' w9 hown9 hg9 _
            obtain ⟨a9, c9, rfl, hC9⟩ := (HX.alloc _).push hg9 hown9
            have HC9 : Hid (∃ es s', Est w w9 B N s' a9 (n + 1) c9 es) := ⟨_, _, hC9⟩
            clear hC9 hown9 hg9 hown HX
            go_wp2
            go_roundw
            case rel => exact ⟨n + 1, a9, c9, by omega, rfl, HC9⟩
            case measure => simp [lenOf]; omega
          · have hdum := hn
            have hn0 : 0 < n := by omega
            obtain ⟨g, rfl, hnc, hgg⟩ := HX.addr hn0
            have hc : c ≤ 9223372036854775807 := owns_capC HX.own
            go_wp2_with fail
            refine (l1NextF_any B N 12 s1 _ HX.src (by omega) (by omega)).mono ?_
            rintro e w8 ⟨rfl, hs8, hk8⟩
            have HX8 := Hid.out (HX.next hk8 hs8)
            generalize s1.next 12 = x8 at *
            generalize s1.rest 12 = s8 at *
            clear hs8 hk8 HX
            by_cases hx8 : x8 = 0
            · subst hx8
              obtain ⟨⟨y8, z8, q1, q2⟩, ⟨q3, q4⟩, es8, hC8⟩ := HX8.set0 rfl hn0 0 true
              have HC8 := Hid.out hC8
              clear hC8 HX8
              go_wp2
              go_ret
              exact ⟨_, _, _, _, _, rfl, HC8, by omega⟩
            · go_wp2
              go_ret
              exact ⟨_, _, _, _, _, rfl, HX8, by omega⟩
      · have HX := HX2
        clear HX2
        by_cases hn0 : 0 < n
        rotate_left
        · obtain rfl : n = 0 := by omega
          go_wp2
          go_ret
          exact ⟨_, _, _, _, _, rfl, HX, by omega⟩
        obtain ⟨g, rfl, hnc, hgg⟩ := HX.addr hn0
        have hc : c ≤ 9223372036854775807 := owns_capC HX.own
        go_wp2_with fail
        refine (l1NextF_any B N 12 s2 _ HX.src (by omega) (by omega)).mono ?_
        rintro e w8 ⟨rfl, hs8, hk8⟩
        have HX8 := Hid.out (HX.next hk8 hs8)
        generalize s2.next 12 = x8 at *
        generalize s2.rest 12 = s8 at *
        clear hs8 hk8 HX
        by_cases hx8 : x8 = 0
        · subst hx8
          obtain ⟨⟨y8, z8, q1, q2⟩, ⟨q3, q4⟩, es8, hC8⟩ := HX8.set0 rfl hn0 0 true
          have HC8 := Hid.out hC8
          clear hC8 HX8
          go_wp2
          go_ret
          exact ⟨_, _, _, _, _, rfl, HC8, by omega⟩
        · go_wp2
          go_ret
          exact ⟨_, _, _, _, _, rfl, HX8, by omega⟩

set_option maxHeartbeats 4000000 in
set_option maxRecDepth 100000 in
theorem drawTable_any (a : Option Addr) (n ca : Nat) (xs : List Int) (w : World) (ha : IRow .u8 w a n xs) (hx : ∀ i, i < n → 0 ≤ xs[i]?.getD 0 ∧ xs[i]?.getD 0 ≤ 255) (hn : n ≤ 2097152) :
    Calls Tryd.prog 8 #[.slice a n ca] w fun e w' => ∃ a' n' c' es, e = .returned (.slice a' n' c') ∧ ERead w' a' n' es ∧ n' ≤ 1025 ∧ Below w.heap.size w w' := by
  go_enter Tryd.func8, Tryd.ntmps8
  go_wp2_with fail
  refine (l1SourceF_any a n ca xs _ ha hx hn).mono ?_
  rintro e w1 ⟨rfl, hs1, hb1⟩
  clear ha hx
  go_wp2_with fail
  refine (l2DrawTable_any _ _ _ _ hs1 (Nat.le_refl _)).mono ?_
  rintro e w2 ⟨a2, n2, c2, es, s2, rfl, hC, hn2⟩
  have HX := Hid.out hC
  have HBF : Hid (Below w.heap.size w w2) := hb1.trans (HX.below (Nat.le_refl _))
  clear hs1 hb1 hC
  go_wp2
  go_ret
  exact ⟨_, _, _, _, rfl, HX.row, by omega, HBF.out⟩
end Go.Proofs.YtkkammbfomiofaaDoor
