/-
  FnChoose: the draws, as lists of some numbers.
-/
import Derived.Test.YtkkammbfomiofaaLwc
namespace Go.Proofs.Ytkkammbfomiofaa
open Go.RowKit
set_option linter.unusedSimpArgs false
set_option linter.unusedVariables false

theorem heap_set_ne {W : World} {g i j : Nat} {v : Value} (h : g ≠ j) : (W.setCell ⟨g, i, none⟩ v).heap[j]? = W.heap[j]? := by simp [World.setCell, Array.getElem?_modify, h]
theorem kept_grown {B : Nat} {w W W' : World} {r : Option Nat} (h : Kept (fun g => g = B) w W) (hg : W.grownBy W' r) (hr : ∀ g, r = some g → w.heap.size ≤ g) : Kept (fun g => g = B) w W' :=
  ⟨hg.os.trans h.1, hg.tape.trans h.2, hg.output.trans h.3, Nat.le_trans h.size hg.size, fun j hj hjB => (hg.block j (Nat.lt_of_lt_of_le hj h.size) (fun e => by have := hr j e.symm; omega)).trans (h.block j hj hjB)⟩
theorem owns_capC {w : World} {B e sz n : Nat} {a : Option Addr} {c : Nat} {vs : List Value} (h : w.ownsRow B e sz (.slice a n c) n vs) : c ≤ 9223372036854775807 := by
  rcases h.2 with ⟨e1, h0⟩ | ⟨g, cap, cur, e1, hB, hh, hcap, hm, hcs, htk⟩
  · injection e1 with e1 e2 e3
    omega
  · injection e1 with e1 e2 e3
    unfold maxLen at hm
    omega
/-- The source, a list of one's own and what is kept, in one. -/
structure Cst (w W : World) (B N : Nat) (s : SV) (a : Option Addr) (n c : Nat) (cs : List Int) : Prop where
  src : SrcF W B N s
  kp : Kept (fun g => g = B) w W
  own : W.ownsRow w.heap.size 2 1 (.slice a n c) n (i64L cs)
  hB : B < w.heap.size
  hN : N ≤ w.heap.size
section
variable {w W W' : World} {B N : Nat} {s s' : SV} {a : Option Addr} {n c : Nat} {cs : List Int}
theorem Cst.next (h : Cst w W B N s a n c cs) (hk : Kept (fun g => g = B) W W') (hs : SrcF W' B N s') : Cst w W' B N s' a n c cs :=
  ⟨hs, h.kp.trans hk, row_kept h.own hk (fun g hg e => by have h1 := (h.own.lt g hg).1; have h2 := h.hB; omega), h.hB, h.hN⟩
theorem Cst.alloc (h : Cst w W B N s a n c cs) (o : Obj) : Cst w (W.alloc o) B N s a n c cs :=
  h.next (Kept.of_below ((Below.refl _ W).alloc (Nat.le_refl _) o) _) (h.src.below ((Below.refl _ W).alloc (Nat.le_refl _) o))
theorem Cst.push (h : Cst w W B N s a n c cs) (hg : W.grownBy W' (Value.slice a n c).ownBlock) {v : Value} {x : Int} (ho : W'.ownsRow w.heap.size 2 1 v (n + 1) (i64L cs ++ [.int .i64 x])) :
    ∃ a' c', v = .slice a' (n + 1) c' ∧ Cst w W' B N s a' (n + 1) c' (cs ++ [x]) := by
  obtain ⟨a', c', rfl⟩ := owns_shape ho
  have hB := h.hB
  have hN := h.hN
  have hlt : ∀ g, (Value.slice a n c).ownBlock = some g → w.heap.size ≤ g := fun g hg => (h.own.lt g hg).1
  refine ⟨a', c', rfl, h.src.kept (grown_kept hg) (fun e => by have := hlt _ e; omega) (fun g hg e => by have := hlt _ e; omega), kept_grown h.kp hg hlt, ?_, hB, hN⟩
  rw [i64L, List.map_append]; exact ho
theorem Cst.set (h : Cst w W B N s a n c cs) {g : Nat} (ea : a = some ⟨g, 0, none⟩) (i : Nat) (hi : i < n) (x : Int) :
    (∃ y, W.cell? ⟨g, i, none⟩ = some (.int .i64 y)) ∧ W.frozen? ⟨g, i, none⟩ = false ∧ Cst w (W.setCell ⟨g, i, none⟩ (.int .i64 x)) B N s a n c (spl cs i [x]) := by
  subst ea
  have hB := h.hB
  have hN := h.hN
  have hl : cs.length = n := by have := h.own.1; rw [i64L_len] at this; omega
  have hg := (h.own.lt g rfl).1
  have kk : Kept (fun q => q = g) W (W.setCell ⟨g, i, none⟩ (.int .i64 x)) := Kept.setCell W ⟨g, i, none⟩ _ _ rfl
  refine ⟨?_, ?_, h.src.kept kk (by omega) (fun q hq e => by omega), ?_, ?_, hB, hN⟩
  · obtain ⟨a9, c9, e9, r9⟩ := owns_i64 h.own
    injection e9 with e9 _ _
    subst e9
    obtain ⟨g', off, e', hc⟩ := r9.2.resolve_left (by omega)
    injection e' with e'
    injection e' with e1 e2
    subst e1; subst e2
    have := hc i hi
    rw [Nat.zero_add] at this
    exact ⟨_, this⟩
  · obtain ⟨cur, hc⟩ := owns_tag h.own (g := g) rfl
    simp [World.frozen?, hc]
  · exact ⟨h.kp.1, h.kp.2, h.kp.3, by simpa using h.kp.size, fun j hj hjB => (heap_set_ne (by omega)).trans (h.kp.block j hj hjB)⟩
  · have hst : (W.setCells g i [.int .i64 x]).ownsRow w.heap.size 2 1 (.slice (some ⟨g, 0, none⟩) n c) n (spl (i64L cs) i [.int .i64 x]) := owns_setCells h.own i (by simp; omega)
    have e : spl (i64L cs) i [.int .i64 x] = i64L (spl cs i [x]) := by simp [spl, i64L]
    rw [e] at hst
    exact hst
theorem Cst.addr (h : Cst w W B N s a n c cs) (hn : 0 < n) : ∃ g, a = some ⟨g, 0, none⟩ ∧ n ≤ c ∧ w.heap.size ≤ g := by
  obtain ⟨g, e, hc, _⟩ := owns_range h.own 0 0 hn
  exact ⟨g, e, hc, (h.own.lt g (by rw [e]; rfl)).1⟩
theorem Cst.row (h : Cst w W B N s a n c cs) : IRow .i64 W a n cs := by
  obtain ⟨a9, c9, e9, r9⟩ := owns_i64 h.own
  injection e9 with e9 _ _
  subst e9
  exact r9
theorem Cst.below (h : Cst w W B N s a n c cs) {K : Nat} (hK : K ≤ B) : Below K w W := h.kp.below (by have := h.hB; omega) (fun j hj => by omega)
end
set_option maxHeartbeats 4000000 in
set_option maxRecDepth 100000 in
theorem l4DrawCounts_any (B N : Nat) (s : SV) (w : World) (h : SrcF w B N s) (hN : N ≤ w.heap.size) :
    Calls Try.prog 49 #[.pointer (some ⟨B, 0, none⟩)] w fun e w' => ∃ a n c cs s', e = .returned (.slice a n c) ∧ Cst w w' B N s' a n c cs ∧ n ≤ 9 := by
  obtain ⟨i0, hi0, hz0, hz1, hz2⟩ := info_parts info2
  have hBl := h.lt
  have bo : Below w.heap.size w (w.alloc (Obj.cells #[] 2)) := (Below.refl _ w).alloc (Nat.le_refl _) _
  have HE : Hid (Cst w (w.alloc (Obj.cells #[] 2)) B N s (some ⟨w.heap.size, 0, none⟩) 0 0 []) := ⟨h.below bo, Kept.of_below bo _, World.ownsRow_made w #[] 0 (Nat.le_refl _) (Nat.zero_le _) rfl, hBl, hN⟩
  clear bo h
  go_enter Try.func49, Try.ntmps49
  go_wp2_with fail
  refine (l1NextF_any B N 10 s _ HE.out.src (by omega) (by omega)).mono ?_
  rintro e w1 ⟨rfl, hs1, hk1⟩
  obtain ⟨y0, y1⟩ := SV.next_range (s := s) (m := 10) (by omega)
  obtain ⟨Y, hY⟩ : ∃ Y : Nat, s.next 10 = (Y : Int) := ⟨(s.next 10).toNat, by omega⟩
  have H1 := Hid.out (HE.out.next hk1 hs1)
  rw [hY] at y0 y1 ⊢
  have HC1 : Hid (∃ s', Cst w w1 B N s' (some ⟨w.heap.size, 0, none⟩) 0 0 []) := ⟨_, H1⟩
  clear hs1 hk1 HE hY H1
  go_wp2
  go_loopw [3, 4] (fun o i wr => ∃ (k n : Nat) (ad : Option Addr) (c : Nat), n + k ≤ 9 ∧ o = .slice ad n c ∧ i = .int .i64 k ∧ Hid (∃ cs s', Cst w wr B N s' ad n c cs)) (fun _ i _ => (intOf i).toNat)
  case atStart => exact ⟨Y, 0, _, _, by omega, rfl, rfl, by obtain ⟨s', h⟩ := HC1.out; exact ⟨[], s', h⟩⟩
  case round =>
    obtain ⟨k, n, ad, c, hk, rfl, rfl, HC⟩ := hrel
    clear HC1 y0 y1
    by_cases hlt : 0 < k
    · obtain ⟨cs, s1, hC⟩ := HC.out
      have HX : Hid (Cst w wr B N s1 ad n c cs) := hC
      clear hC HC
      go_wp2_with fail
      refine (l1NextF_any B N 5 s1 _ HX.out.src (by omega) (by omega)).mono ?_
      rintro e w2 ⟨rfl, hs2, hk2⟩
      have HX2 := Hid.out (HX.out.next hk2 hs2)
      have hown := HX2.own
      generalize s1.next 5 = x at *
      have hwz := HX2.kp.size
      clear hs2 hk2 HX
      go_wp2_with (at_builtin; refine wpList_append_own _ rfl _ _ 40 rfl w.heap.size 2 i0 (.int .i64 0) 1 8 Try.underlying40 hi0 hz0 hz1 hz2 rfl (by decide) _ _ _ rfl (hown.alloc _) ⟨w2.heap.size, 0, none⟩ 1 1 [.int .i64 x] rfl rfl one_cell (one_i64 _) (by unfold maxLen; omega) (by omega) (by simp; omega) ?_)
      intro v' w3 hown3 hg3 _
      obtain ⟨a3, c3, rfl, hC3⟩ := (HX2.alloc _).push hg3 hown3
      have HC3 : Hid (∃ cs s', Cst w w3 B N s' a3 (n + 1) c3 cs) := ⟨_, _, hC3⟩
      clear hC3 hown3 hg3 hown HX2
      go_wp2
      go_roundw
      case rel => exact ⟨k - 1, n + 1, a3, c3, by omega, rfl, by first | go_num | (congr 1; omega), HC3⟩
      case measure => simp [intOf]; omega
    · obtain rfl : k = 0 := by omega
      obtain ⟨cs, s1, hC⟩ := HC.out
      have HX : Hid (Cst w wr B N s1 ad n c cs) := hC
      clear hC HC
      by_cases hn0 : 0 < n
      rotate_left
      · obtain rfl : n = 0 := by omega
        go_wp2
        go_ret
        exact ⟨_, _, _, _, _, rfl, HX.out, by omega⟩
      obtain ⟨g, rfl, hnc, hgg⟩ := HX.out.addr hn0
      go_wp2_with fail
      refine (l1NextF_any B N 12 s1 _ HX.out.src (by omega) (by omega)).mono ?_
      rintro e w2 ⟨rfl, hs2, hk2⟩
      have HX2 := Hid.out (HX.out.next hk2 hs2)
      generalize s1.next 12 = x at *
      generalize s1.rest 12 = s2 at *
      clear hs2 hk2 HX
      have hc : c ≤ 9223372036854775807 := owns_capC HX2.own
      by_cases hx0 : x = 0
      · subst hx0
        obtain ⟨⟨y, q1⟩, q2, hC3⟩ := HX2.set rfl 0 hn0 (-1)
        have HX3 := Hid.out hC3
        clear hC3 HX2
        go_wp2_with fail
        refine (l1NextF_any B N 12 s2 _ HX3.src (by omega) (by omega)).mono ?_
        rintro e w4 ⟨rfl, hs4, hk4⟩
        have HX4 := Hid.out (HX3.next hk4 hs4)
        clear hs4 hk4 HX3 q1 q2
        generalize s2.next 12 = x2 at *
        generalize s2.rest 12 = s4 at *
        by_cases hx2 : x2 = 0
        · subst hx2
          obtain ⟨⟨y4, q1⟩, q2, hC5⟩ := HX4.set rfl (n - 1) (by omega) 9223372036854775807
          have HX5 := Hid.out hC5
          have e5 : (n : Int) - 1 = ((n - 1 : Nat) : Int) := by omega
          clear hC5 HX4
          go_wp2
          go_ret
          exact ⟨_, _, _, _, _, rfl, HX5, by omega⟩
        · go_wp2
          go_ret
          exact ⟨_, _, _, _, _, rfl, HX4, by omega⟩
      · go_wp2_with fail
        refine (l1NextF_any B N 12 s2 _ HX2.src (by omega) (by omega)).mono ?_
        rintro e w4 ⟨rfl, hs4, hk4⟩
        have HX4 := Hid.out (HX2.next hk4 hs4)
        clear hs4 hk4 HX2
        generalize s2.next 12 = x2 at *
        generalize s2.rest 12 = s4 at *
        by_cases hx2 : x2 = 0
        · subst hx2
          obtain ⟨⟨y4, q1⟩, q2, hC5⟩ := HX4.set rfl (n - 1) (by omega) 9223372036854775807
          have HX5 := Hid.out hC5
          have e5 : (n : Int) - 1 = ((n - 1 : Nat) : Int) := by omega
          clear hC5 HX4
          go_wp2
          go_ret
          exact ⟨_, _, _, _, _, rfl, HX5, by omega⟩
        · go_wp2
          go_ret
          exact ⟨_, _, _, _, _, rfl, HX4, by omega⟩

set_option maxHeartbeats 4000000 in
set_option maxRecDepth 100000 in
theorem drawPickVictim_any (a : Option Addr) (n ca : Nat) (xs : List Int) (w : World) (ha : IRow .u8 w a n xs) (hx : ∀ i, i < n → 0 ≤ xs[i]?.getD 0 ∧ xs[i]?.getD 0 ≤ 255) (hn : n ≤ 2097152) :
    Calls Try.prog 18 #[.slice a n ca] w fun e w' => ∃ a' n' c' cs act sb, e = .returned (.tuple #[.slice a' n' c', .int .i64 act, .int .i64 sb]) ∧ IRow .i64 w' a' n' cs ∧ n' ≤ 9 ∧ Below w.heap.size w w' := by
  go_enter Try.func18, Try.ntmps18
  go_wp2_with fail
  refine (l1SourceF_any a n ca xs _ ha hx hn).mono ?_
  rintro e w1 ⟨rfl, hs1, hb1⟩
  clear ha hx
  go_wp2_with fail
  refine (l4DrawCounts_any _ _ _ _ hs1 (Nat.le_refl _)).mono ?_
  rintro e w2 ⟨a2, n2, c2, cs, s2, rfl, hC, hn2⟩
  obtain ⟨B, hB⟩ : ∃ B, w.heap.size = B := ⟨_, rfl⟩
  rw [hB] at hC ⊢
  have HB1 : Hid (Below w.heap.size w w1) := hb1
  have HBB : Hid (w.heap.size = B) := hB
  have HC2 : Hid (∃ cs s', Cst w1 w2 B w1.heap.size s' a2 n2 c2 cs) := ⟨_, _, hC⟩
  clear hs1 hb1 hC hB
  go_wp2
  go_loopw [7] (fun i wr => ∃ k : Nat, k ≤ n2 ∧ i = .int .i64 k ∧ Hid (∃ cs s', Cst w1 wr B w1.heap.size s' a2 n2 c2 cs)) (fun i _ => n2 - (intOf i).toNat)
  case atStart => exact ⟨0, Nat.zero_le _, rfl, HC2⟩
  case round =>
    obtain ⟨k, hk, rfl, HC⟩ := hrel
    clear HC2
    obtain ⟨cs, s1, hC⟩ := HC.out
    have HX : Hid (Cst w1 wr B w1.heap.size s1 a2 n2 c2 cs) := hC
    clear hC HC
    by_cases hlt : k < n2
    · obtain ⟨g, rfl, hnc, hgg⟩ := HX.out.addr (by omega)
      have hc : c2 ≤ 9223372036854775807 := owns_capC HX.out.own
      obtain ⟨⟨y, q1⟩, q2, _⟩ := HX.out.set rfl k hlt 3
      by_cases hy : y = 0
      · subst hy
        go_wp2_with fail
        refine (l1NextF_any B w1.heap.size 2 s1 _ HX.out.src (by omega) (by omega)).mono ?_
        rintro e w4 ⟨rfl, hs4, hk4⟩
        have HX4 := Hid.out (HX.out.next hk4 hs4)
        clear hs4 hk4 q1 q2 HX
        generalize s1.next 2 = x2 at *
        generalize s1.rest 2 = s4 at *
        by_cases hx2 : x2 = 0
        · subst hx2
          obtain ⟨⟨y4, q1⟩, q2, hC5⟩ := HX4.set rfl k hlt 3
          have HX5 : Hid (∃ cs s', Cst w1 (w4.setCell ⟨g, k, none⟩ (.int .i64 3)) B w1.heap.size s' (some ⟨g, 0, none⟩) n2 c2 cs) := ⟨_, _, hC5⟩
          clear hC5 HX4
          go_wp2
          go_roundw
          case rel => exact ⟨k + 1, by omega, by go_num, HX5⟩
          case measure => simp [intOf]; omega
        · have HX5 : Hid (∃ cs s', Cst w1 w4 B w1.heap.size s' (some ⟨g, 0, none⟩) n2 c2 cs) := ⟨_, _, HX4⟩
          clear HX4
          go_wp2
          go_roundw
          case rel => exact ⟨k + 1, by omega, by go_num, HX5⟩
          case measure => simp [intOf]; omega
      · have HX5 : Hid (∃ cs s', Cst w1 wr B w1.heap.size s' (some ⟨g, 0, none⟩) n2 c2 cs) := ⟨_, _, HX.out⟩
        clear HX
        go_wp2
        go_roundw
        case rel => exact ⟨k + 1, by omega, by go_num, HX5⟩
        case measure => simp [intOf]; omega
    · go_wp2_with fail
      refine (l1NextF_any B w1.heap.size 5 s1 _ HX.out.src (by omega) (by omega)).mono ?_
      rintro e w4 ⟨rfl, hs4, hk4⟩
      obtain ⟨z0, z1⟩ := SV.next_range (s := s1) (m := 5) (by omega)
      have HX4 := Hid.out (HX.out.next hk4 hs4)
      clear hs4 hk4 HX
      generalize s1.next 5 = x5 at *
      generalize s1.rest 5 = s4 at *
      go_wp2_with fail
      refine (l1NextF_any B w1.heap.size 16 s4 _ HX4.src (by omega) (by omega)).mono ?_
      rintro e w5 ⟨rfl, hs5, hk5⟩
      have HX5 := Hid.out (HX4.next hk5 hs5)
      clear hs5 hk5 HX4
      generalize s4.next 16 = x16 at *
      generalize s4.rest 16 = s5 at *
      by_cases hx : x16 = 0
      · subst hx
        go_wp2_with fail
        refine (l1NextF_any B w1.heap.size 2 s5 _ HX5.src (by omega) (by omega)).mono ?_
        rintro e w6 ⟨rfl, hs6, hk6⟩
        have HX6 := Hid.out (HX5.next hk6 hs6)
        clear hs6 hk6 HX5
        generalize s5.next 2 = x6 at *
        generalize s5.rest 2 = s6 at *
        go_wp2_with fail
        refine (l1NextF_any B w1.heap.size 10 s6 _ HX6.src (by omega) (by omega)).mono ?_
        rintro e w7 ⟨rfl, hs7, hk7⟩
        have HX7 := Hid.out (HX6.next hk7 hs7)
        obtain ⟨u0, u1⟩ := SV.next_range (s := s6) (m := 10) (by omega)
        clear hs7 hk7 HX6
        generalize s6.next 10 = x7 at *
        have HBF : Hid (Below w.heap.size w w7) := HB1.out.trans (HX7.below (by have := HBB.out; omega))
        go_wp2
        go_ret3
        exact ⟨_, _, _, _, _, _, rfl, HX7.row, by omega, HBF.out⟩
      · go_wp2_with fail
        refine (l1NextF_any B w1.heap.size 10 s5 _ HX5.src (by omega) (by omega)).mono ?_
        rintro e w7 ⟨rfl, hs7, hk7⟩
        have HX7 := Hid.out (HX5.next hk7 hs7)
        obtain ⟨u0, u1⟩ := SV.next_range (s := s5) (m := 10) (by omega)
        clear hs7 hk7 HX5
        generalize s5.next 10 = x7 at *
        have HBF : Hid (Below w.heap.size w w7) := HB1.out.trans (HX7.below (by have := HBB.out; omega))
        go_wp2
        go_ret3
        exact ⟨_, _, _, _, _, _, rfl, HX7.row, by omega, HBF.out⟩
end Go.Proofs.Ytkkammbfomiofaa
