/-
  The draw of an inode.
-/
import Derived.Test.YtkkammbfomiofaaDoorGe
import Derived.Test.YtkkammbfomiofaaDoorDci
namespace Go.Proofs.YtkkammbfomiofaaDoor
open Go.RowKit
set_option linter.unusedSimpArgs false
set_option linter.unusedVariables false

/-- The source, the inode drawn so far in block L, its lids and what is kept, in one. -/
structure Nst (w W : World) (B N : Nat) (s : SV) (L : Nat) (nm : ByteArray) (z : Int) (a : Option Addr) (n c : Nat) (cs : List Int) : Prop where
  src : SrcF W B N s
  kp : Kept (fun g => g = B) w W
  var : W.heap[L]? = some (.cells #[.string nm, .int .i64 z, .slice a n c] 25 (0, 0))
  res : W.heap[w.heap.size]? = some (.cells #[.string ⟨#[]⟩, .int .i64 0, .slice none 0 0] 25 (0, 0))
  own : W.ownsRow w.heap.size 2 1 (.slice a n c) n (i64G cs)
  hB : B < w.heap.size
  hN : N ≤ w.heap.size
  hL : w.heap.size < L
section
variable {w W W' : World} {B N : Nat} {s s' : SV} {L : Nat} {nm : ByteArray} {z : Int} {a : Option Addr} {n c : Nat} {cs : List Int}
theorem Nst.next (h : Nst w W B N s L nm z a n c cs) (hk : Kept (fun g => g = B) W W') (hs : SrcF W' B N s') : Nst w W' B N s' L nm z a n c cs := by
  have hB := h.hB
  have hL := h.hL
  exact ⟨hs, h.kp.trans hk, (hk.block L (Array.getElem?_eq_some_iff.1 h.var).1 (by omega)).trans h.var, (hk.block _ (Array.getElem?_eq_some_iff.1 h.res).1 (by omega)).trans h.res, gn_kept h.own hk (fun g hg e => by have h1 := (h.own.lt g hg).1; omega), hB, h.hN, hL⟩
theorem Nst.drew (h : Nst w W B N s L nm z a n c cs) : Nst w W.drew B N s L nm z a n c cs := h.next (Kept.drew W _) (h.src.drewN 1)
theorem Nst.alloc (h : Nst w W B N s L nm z a n c cs) (o : Obj) : Nst w (W.alloc o) B N s L nm z a n c cs :=
  h.next (Kept.of_below ((Below.refl _ W).alloc (Nat.le_refl _) o) _) (h.src.below ((Below.refl _ W).alloc (Nat.le_refl _) o))
theorem Nst.kset (h : Nst w W B N s L nm z a n c cs) (q : Nat) (v : Value) : SrcF (W.setCell ⟨L, q, none⟩ v) B N s ∧ Kept (fun g => g = B) w (W.setCell ⟨L, q, none⟩ v) ∧ (W.setCell ⟨L, q, none⟩ v).heap[w.heap.size]? = some (.cells #[.string ⟨#[]⟩, .int .i64 0, .slice none 0 0] 25 (0, 0)) ∧ (W.setCell ⟨L, q, none⟩ v).ownsRow w.heap.size 2 1 (.slice a n c) n (i64G cs) := by
  have hB := h.hB
  have hL := h.hL
  have hN := h.hN
  have kk : Kept (fun g => g = L) W (W.setCell ⟨L, q, none⟩ v) := Kept.setCell W ⟨L, q, none⟩ _ _ rfl
  refine ⟨h.src.kept kk (by omega) (fun g hg e => by omega), ⟨h.kp.1, h.kp.2, h.kp.3, by simpa using h.kp.size, fun j hj hjB => (gn_set (by omega)).trans (h.kp.block j hj hjB)⟩, (gn_set (by omega)).trans h.res, gn_kept h.own kk (fun g hg e => gn_ne h.own h.var (by decide) (by rw [← e]; exact hg))⟩
theorem Nst.name (h : Nst w W B N s L nm z a n c cs) (nm' : ByteArray) : Nst w (W.setCell ⟨L, 0, none⟩ (.string nm')) B N s L nm' z a n c cs := by
  obtain ⟨k1, k2, k3, k4⟩ := h.kset 0 (.string nm')
  exact ⟨k1, k2, by simp [World.setCell, Array.getElem?_modify, h.var], k3, k4, h.hB, h.hN, h.hL⟩
theorem Nst.size (h : Nst w W B N s L nm z a n c cs) (z' : Int) : Nst w (W.setCell ⟨L, 1, none⟩ (.int .i64 z')) B N s L nm z' a n c cs := by
  obtain ⟨k1, k2, k3, k4⟩ := h.kset 1 (.int .i64 z')
  exact ⟨k1, k2, by simp [World.setCell, Array.getElem?_modify, h.var], k3, k4, h.hB, h.hN, h.hL⟩
theorem Nst.push (h : Nst w W B N s L nm z a n c cs) {o : Obj} {v : Value} {x : Int} (hg : (W.alloc o).grownBy W' (Value.slice a n c).ownBlock) (ho : W'.ownsRow w.heap.size 2 1 v (n + 1) (i64G cs ++ [.int .i64 x])) :
    ∃ a5 c5, v = .slice a5 (n + 1) c5 ∧ (W'.cell? ⟨L, 2, none⟩ = some (.slice a n c) ∧ W'.frozen? ⟨L, 2, none⟩ = false) ∧ Nst w (W'.setCell ⟨L, 2, none⟩ (.slice a5 (n + 1) c5)) B N s L nm z a5 (n + 1) c5 (cs ++ [x]) := by
  obtain ⟨a5, c5, rfl⟩ := gn_shape ho
  have hB := h.hB
  have hL := h.hL
  have hN := h.hN
  have h1 := h.alloc o
  have hlt : ∀ g, (Value.slice a n c).ownBlock = some g → w.heap.size ≤ g := fun g hg => (h1.own.lt g hg).1
  have nL := gn_ne h1.own h1.var (by decide)
  have nR := gn_ne h1.own h1.res (by decide)
  have v5 := (hg.block L (Array.getElem?_eq_some_iff.1 h1.var).1 (fun e => nL e.symm)).trans h1.var
  have s5 := (hg.block w.heap.size (Array.getElem?_eq_some_iff.1 h1.res).1 (fun e => nR e.symm)).trans h1.res
  have k5 := kept_grown h1.kp hg hlt
  have q5 := h1.src.kept (gn_grown hg) (fun e => by have := hlt _ e; omega) (fun g hg e => by have := hlt _ e; omega)
  have kk : Kept (fun g => g = L) W' (W'.setCell ⟨L, 2, none⟩ (.slice a5 (n + 1) c5)) := Kept.setCell W' ⟨L, 2, none⟩ _ _ rfl
  have n5 := gn_ne ho v5 (by decide)
  refine ⟨a5, c5, rfl, ⟨by rw [cell_of_row W' L 2 _ _ _ v5]; rfl, by simp [World.frozen?, v5]⟩, q5.kept kk (by omega) (fun g hg e => by omega), ⟨k5.1, k5.2, k5.3, by simpa using k5.size, fun j hj hjB => (gn_set (by omega)).trans (k5.block j hj hjB)⟩, by simp [World.setCell, Array.getElem?_modify, v5], (gn_set (by omega)).trans s5, ?_, hB, hN, hL⟩
  rw [i64G, List.map_append]
  exact gn_kept ho kk (fun g hg e => n5 (by rw [← e]; exact hg))
theorem Nst.set0 (h : Nst w W B N s L nm z a n c cs) {g : Nat} (ea : a = some ⟨g, 0, none⟩) (hn : 0 < n) (x : Int) :
    (∃ y, W.cell? ⟨g, 0, none⟩ = some (.int .i64 y)) ∧ W.frozen? ⟨g, 0, none⟩ = false ∧ ∃ cs', Nst w (W.setCell ⟨g, 0, none⟩ (.int .i64 x)) B N s L nm z a n c cs' := by
  subst ea
  have hB := h.hB
  have hN := h.hN
  have hg := (h.own.lt g rfl).1
  have hgL := gn_ne h.own h.var (by decide)
  have hgR := gn_ne h.own h.res (by decide)
  simp only [Value.ownBlock, ne_eq, Option.some.injEq] at hgL hgR
  have hl : cs.length = n := by have := h.own.1; simp [i64G] at this; exact this
  have kk : Kept (fun q => q = g) W (W.setCell ⟨g, 0, none⟩ (.int .i64 x)) := Kept.setCell W ⟨g, 0, none⟩ _ _ rfl
  refine ⟨?_, ?_, spl cs 0 [x], h.src.kept kk (by omega) (fun q hq e => by omega), ⟨h.kp.1, h.kp.2, h.kp.3, by simpa using h.kp.size, fun j hj hjB => (gn_set (by omega)).trans (h.kp.block j hj hjB)⟩, (gn_set (by omega)).trans h.var, (gn_set (by omega)).trans h.res, ?_, hB, hN, h.hL⟩
  · obtain ⟨a9, c9, e9, r9⟩ := gn_row h.own
    injection e9 with e9 _ _
    subst e9
    obtain ⟨g', off, e', hc⟩ := r9.read.2.resolve_left (by omega)
    injection e' with e'
    injection e' with e1 e2
    subst e1; subst e2
    have := hc 0 hn
    rw [Nat.zero_add] at this
    exact ⟨_, this⟩
  · obtain ⟨cur, hc⟩ := owns_tag h.own (g := g) rfl
    simp [World.frozen?, hc]
  · have hst : (W.setCells g 0 [.int .i64 x]).ownsRow w.heap.size 2 1 (.slice (some ⟨g, 0, none⟩) n c) n (spl (i64G cs) 0 [.int .i64 x]) := owns_setCells h.own 0 (by simp; omega)
    have e : spl (i64G cs) 0 [.int .i64 x] = i64G (spl cs 0 [x]) := by simp [spl, i64G]
    rw [e] at hst
    exact hst
theorem Nst.addr (h : Nst w W B N s L nm z a n c cs) (hn : 0 < n) : ∃ g, a = some ⟨g, 0, none⟩ ∧ n ≤ c ∧ w.heap.size ≤ g := by
  obtain ⟨g, e, hc, _⟩ := owns_range h.own 0 0 hn
  exact ⟨g, e, hc, (h.own.lt g (by rw [e]; rfl)).1⟩
theorem Nst.grown (h : Nst w W B N s L nm z a n c cs) {o : Obj} (hg : (W.alloc o).grownBy W' (Value.slice a n c).ownBlock) :
    W'.heap[L]? = some (.cells #[.string nm, .int .i64 z, .slice a n c] 25 (0, 0)) ∧ W'.heap[w.heap.size]? = some (.cells #[.string ⟨#[]⟩, .int .i64 0, .slice none 0 0] 25 (0, 0)) := by
  have h1 := h.alloc o
  have nL := gn_ne h1.own h1.var (by decide)
  have nR := gn_ne h1.own h1.res (by decide)
  exact ⟨(hg.block L (Array.getElem?_eq_some_iff.1 h1.var).1 (fun e => nL e.symm)).trans h1.var, (hg.block w.heap.size (Array.getElem?_eq_some_iff.1 h1.res).1 (fun e => nR e.symm)).trans h1.res⟩
theorem Nst.far (h : Nst w W B N s L nm z a n c cs) {g : Nat} (ea : a = some ⟨g, 0, none⟩) : (¬ g = L ∧ ¬ L = g) ∧ ¬ g = w.heap.size ∧ ¬ w.heap.size = g := by
  subst ea
  have hgL := gn_ne h.own h.var (by decide)
  have hgR := gn_ne h.own h.res (by decide)
  simp only [Value.ownBlock, ne_eq, Option.some.injEq] at hgL hgR
  exact ⟨⟨hgL, fun e => hgL e.symm⟩, hgR, fun e => hgR e.symm⟩
theorem one_cellN {W : World} {m : Nat} (hs : W.heap.size = m) {x : Value} {t : TypeId} : ∀ j u, [x][j]? = some u → (W.alloc (.cells #[x] t)).cell? ((⟨m, 0, none⟩ : Addr).add j) = some u := by subst hs; exact one_cell
theorem Nst.fin (h : Nst w W B N s L nm z a n c cs) (v0 v1 v2 : Value) : (((W.setCell ⟨w.heap.size, 0, none⟩ v0).setCell ⟨w.heap.size, 1, none⟩ v1).setCell ⟨w.heap.size, 2, none⟩ v2).ownsRow w.heap.size 2 1 (.slice a n c) n (i64G cs) ∧ Kept (fun g => g = B) w (((W.setCell ⟨w.heap.size, 0, none⟩ v0).setCell ⟨w.heap.size, 1, none⟩ v1).setCell ⟨w.heap.size, 2, none⟩ v2) := by
  have hn := gn_ne h.own h.res (by decide)
  have kk : Kept (fun g => g = w.heap.size) W (((W.setCell ⟨w.heap.size, 0, none⟩ v0).setCell ⟨w.heap.size, 1, none⟩ v1).setCell ⟨w.heap.size, 2, none⟩ v2) := ((Kept.setCell W ⟨w.heap.size, 0, none⟩ _ (fun g => g = w.heap.size) rfl).trans (Kept.setCell _ ⟨w.heap.size, 1, none⟩ _ _ rfl)).trans (Kept.setCell _ ⟨w.heap.size, 2, none⟩ _ _ rfl)
  refine ⟨?_, ⟨h.kp.1, h.kp.2, h.kp.3, by simpa using h.kp.size, fun j hj hjB => (((gn_set (by omega)).trans (gn_set (by omega))).trans (gn_set (by omega))).trans (h.kp.block j hj hjB)⟩⟩
  exact gn_kept h.own kk (fun g hg e => hn (by rw [← e]; exact hg))
end
set_option maxHeartbeats 8000000 in
set_option maxRecDepth 100000 in
theorem l2DrawInode_any (B N : Nat) (s : SV) (w : World) (h : SrcF w B N s) (hN : N ≤ w.heap.size) :
    Calls Tryd.prog 16 #[.pointer (some ⟨B, 0, none⟩)] w fun e w' => ∃ nm z a n c cs, e = .returned (.agg #[.string nm, .int .i64 z, .slice a n c]) ∧ nm.size ≤ 16 ∧ n ≤ 24 ∧ w'.ownsRow w.heap.size 2 1 (.slice a n c) n (i64G cs) ∧ Kept (fun g => g = B) w w' := by
  obtain ⟨i0, hi0, hz0, hz1, hz2⟩ := info_parts info2
  have hBl := h.lt
  have bo := fun o : Obj => (Below.refl _ w).alloc (Nat.le_refl _) o
  have HA := Hid.out (fun o : Obj => h.below (bo o))
  go_enter Tryd.func16, Tryd.ntmps16
  go_wp2_with fail
  refine (l2DrawName_any B N s _ (HA _) (by simp; omega)).mono ?_
  rintro e w1 ⟨nm, s1, rfl, hnm, hs1, hk1⟩
  have r1 := (hk1.block w.heap.size (by simp) (by omega)).trans (heap_alloc_new w _)
  have kk1 : Kept (fun g => g = B) w w1 := (Kept.of_below (bo _) _).trans hk1
  have z1 := (Array.getElem?_eq_some_iff.1 r1).1
  clear hk1 HA h bo
  go_wp2_with fail
  refine (l1NextF_any B N 400 s1 _ hs1 (by omega) (by omega)).mono ?_
  rintro e w2 ⟨rfl, hs2, hk2⟩
  obtain ⟨u0, u1⟩ := SV.next_range (s := s1) (m := 400) (by omega)
  have r2 := (hk2.block w.heap.size z1 (by omega)).trans r1
  have kk2 := kk1.trans hk2
  have z2 := (Array.getElem?_eq_some_iff.1 r2).1
  generalize s1.next 400 = zz at *
  generalize s1.rest 400 = s2 at *
  clear hk2 hs1 kk1 r1
  have HX := Hid.out (show Nst w (w2.alloc (.cells #[.string nm, .int .i64 zz, .slice none 0 0] 25)) B N s2 w2.heap.size nm zz none 0 0 [] from by
    have ba := (Below.refl _ w2).alloc (Nat.le_refl _) (.cells #[.string nm, .int .i64 zz, .slice none 0 0] 25)
    exact ⟨hs2.below ba, kk2.trans (Kept.of_below ba _), heap_alloc_new w2 _, (ba.block _ z2).trans r2, ⟨rfl, .inl ⟨rfl, rfl⟩⟩, hBl, hN, z2⟩)
  obtain ⟨L, hLL⟩ : ∃ L, w2.heap.size = L := ⟨_, rfl⟩
  have HLL : Hid (w2.heap.size = L) := hLL
  rw [hLL] at HX
  clear hs2 kk2 r2 hLL
  go_wp2_with fail
  refine (l1NextF_any B N 6 s2 _ HX.src (by omega) (by omega)).mono ?_
  rintro e w3 ⟨rfl, hs3, hk3⟩
  have HX3 := Hid.out (HX.next hk3 hs3)
  rw [HLL.out]
  generalize s2.next 6 = x6 at *
  generalize s2.rest 6 = s3 at *
  clear hs3 hk3 HX
  have l3 := (Array.getElem?_eq_some_iff.1 HX3.var).1
  have hLw := HX3.hL
  by_cases h6 : x6 = 0
  case' pos =>
    subst h6
    go_wp2_with fail
    refine (l1NextF_any B N 66 s3 _ HX3.src (by omega) (by omega)).mono ?_
    rintro e w4 ⟨rfl, hs4, hk4⟩
    obtain ⟨t0, t1⟩ := SV.next_range (s := s3) (m := 66) (by omega)
    have HX4 := Hid.out (HX3.next hk4 hs4)
    generalize s3.next 66 = x4 at *
    generalize s3.rest 66 = s5 at *
    clear hs4 hk4 HX3
    obtain ⟨⟨v0, v1, v2⟩, g0, g1, g2⟩ := three_of HX4.var
    have HX5 := Hid.out (HX4.size (1408 - x4))
    have y0 : 0 ≤ 1408 - x4 := by omega
    have y1 : 1408 - x4 ≤ 1408 := by omega
    clear HX4
    go_wp2_with fail
    generalize 1408 - x4 = z5 at *
    generalize w4.setCell ⟨L, 1, none⟩ (.int .i64 z5) = w5 at *
    clear v0 v1 v2 g0 g1 g2
  case' neg =>
    obtain ⟨s5, e5⟩ : ∃ q, q = s3 := ⟨_, rfl⟩
    obtain ⟨z5, e5'⟩ : ∃ q, q = zz := ⟨_, rfl⟩
    obtain ⟨w5, e5''⟩ : ∃ q, q = w3 := ⟨_, rfl⟩
    have HX5 := Hid.out HX3
    rw [← e5, ← e5', ← e5''] at HX5
    have y0 : 0 ≤ z5 := by omega
    have y1 : z5 ≤ 1408 := by omega
    go_wp2_with fail
    rw [← e5'']
    clear e5 e5' e5'' HX3
  all_goals
    refine (l1NextF_any B N 8 s5 _ HX5.src (by omega) (by omega)).mono ?_
    rintro e w6 ⟨rfl, hs6, hk6⟩
    have HX6 := Hid.out (HX5.next hk6 hs6)
    generalize s5.next 8 = x8 at *
    generalize s5.rest 8 = s6 at *
    clear hs6 hk6 HX5
    have l6 := (Array.getElem?_eq_some_iff.1 HX6.var).1
    by_cases h8 : x8 = 0
    case' neg =>
      have HX9 : Hid (∃ s' a' c' cs', Nst w w6 B N s' L nm z5 a' 0 c' cs') := ⟨_, _, _, _, HX6⟩
      have y0' := y0
      have y1' := y1
      have n8 : (x8 == 0) = false := by simpa using h8
      clear HX6
      go_wp2
      try simp only [n8]
      generalize z5 = z9 at HX9 y0' y1'
    case' pos =>
      subst h8
      go_wp2_with fail
      refine (l1NextF_any B N 23 s6 _ HX6.src (by omega) (by omega)).mono ?_
      rintro e w7 ⟨rfl, hs7, hk7⟩
      obtain ⟨t0, t1⟩ := SV.next_range (s := s6) (m := 23) (by omega)
      have HX7 := Hid.out (HX6.next hk7 hs7)
      generalize s6.next 23 = x7 at *
      generalize s6.rest 23 = s7 at *
      clear hs7 hk7 HX6
      obtain ⟨⟨v0, v1, v2⟩, g0, g1, g2⟩ := three_of HX7.var
      have HX9 : Hid (∃ s' a' c' cs', Nst w (w7.setCell ⟨L, 1, none⟩ (.int .i64 (64 * x7))) B N s' L nm (64 * x7) a' 0 c' cs') := ⟨_, _, _, _, HX7.size (64 * x7)⟩
      have y0' : 0 ≤ 64 * x7 := by omega
      have y1' : 64 * x7 ≤ 1408 := by omega
      clear HX7
      go_wp2
      generalize 64 * x7 = z9 at *
      clear v0 v1 v2 g0 g1 g2
    all_goals
      obtain ⟨KK, hKK⟩ : ∃ KK : Nat, nblk z9 = KK := ⟨(nblk z9).toNat, by unfold nblk; omega⟩
      have hK2 : KK ≤ 22 := by unfold nblk at hKK; omega
      have HKI : Hid (nblk z9 = (KK : Int)) := hKK
      clear hKK
      go_loopw [4] (fun q wq => ∃ j : Nat, j ≤ KK ∧ q = .int .i64 j ∧ Hid (∃ s' a' c' cs', Nst w wq B N s' L nm z9 a' j c' cs')) (fun q _ => KK - (intOf q).toNat)
      case atStart => exact ⟨0, Nat.zero_le _, rfl, HX9⟩
      case round =>
        clear HX9
        obtain ⟨j, hj, rfl, HR⟩ := hrel
        obtain ⟨sq, aq, cq, csq, hR⟩ := HR.out
        have HX := Hid.out hR
        obtain ⟨⟨v0, v1, v2⟩, g0, g1, g2⟩ := three_of hR.var
        have hLq := (Array.getElem?_eq_some_iff.1 hR.var).1
        clear hR HR
        go_wp2_with fail
        refine (l2Blocks_any z9 _ y0' y1').mono ?_
        rintro e wb ⟨rfl, rfl⟩
        rw [HKI.out]
        by_cases hlt : j < KK
        · go_wp2
          have HXd := Hid.out HX.drew
          have v2' : wb.drew.cell? ⟨L, 2, none⟩ = some (.slice aq j cq) := v2
          refine wp_region_held_drew (S := fun _ => True) (by kernel_rfl) trivial (fun _ => ?_)
          clear HX v0 v1 v2 g0 g1 g2
          generalize wb.drew = W4 at *
          refine wpAnyH_take (i := 0) (v := .pointer (some ⟨L, 2, none⟩)) rfl (by kernel_rfl) (by kernel_rfl) (by kernel_rfl) (fun _ _ _ h => h) (Or.inl ⟨rfl, fun V hV => by go_simp⟩) trivial ?_
          refine wpAnyH_take (i := 2) (v := .pointer (some ⟨B, 0, none⟩)) rfl (by kernel_rfl) (by kernel_rfl) (by kernel_rfl) (fun _ _ _ h => h) (Or.inl ⟨rfl, fun V hV => by go_simp⟩) trivial ?_
          refine wpAnyH_ready (rs := [1, 3]) (by kernel_rfl) (by simp) (AllReadyH.cons rfl (fun K hK => ?_) (AllReadyH.cons rfl (fun K hK => ?_) AllReadyH.nil))
          case' refine_1 =>
            go_simp
            refine hK.out _ _ trivial (fun _ => ?_)
            clear hK K
            refine wpAnyH_ready (rs := [3]) (by kernel_rfl) (by simp) (AllReadyH.cons rfl (fun K hK => ?_) AllReadyH.nil)
            go_simp
            refine (l1NextF_any B N 1024 sq _ HXd.src (by omega) (by omega)).mono ?_
            rintro e w4 ⟨rfl, hs4, hk4⟩
            refine hK.out _ _ trivial (fun _ => ?_)
            clear hK K
            obtain ⟨t0, t1⟩ := SV.next_range (s := sq) (m := 1024) (by omega)
            have HX4 := Hid.out (HXd.next hk4 hs4)
            generalize sq.next 1024 = x at *
            generalize sq.rest 1024 = s4 at *
            clear hs4 hk4 HXd v2'
            refine wpAnyH_take (i := 4) (v := .int .i64 (1 + x)) rfl (by kernel_rfl) (by kernel_rfl) (by kernel_rfl) (fun _ _ _ h => h) (Or.inl ⟨rfl, fun V hV => by go_simp; exact wrap_small' _ (by omega) (by omega)⟩) trivial ?_
            refine wpAnyH_ready (rs := [5]) (by kernel_rfl) (by simp) (AllReadyH.cons rfl (fun K hK => ?_) AllReadyH.nil)
            go_simp
            refine hK.out _ _ trivial (fun _ => ?_)
            clear hK K
          case' refine_2 =>
            go_simp
            refine (l1NextF_any B N 1024 sq _ HXd.src (by omega) (by omega)).mono ?_
            rintro e w4 ⟨rfl, hs4, hk4⟩
            refine hK.out _ _ trivial (fun _ => ?_)
            clear hK K
            obtain ⟨t0, t1⟩ := SV.next_range (s := sq) (m := 1024) (by omega)
            have HX4 := Hid.out (HXd.next hk4 hs4)
            generalize sq.next 1024 = x at *
            generalize sq.rest 1024 = s4 at *
            clear hs4 hk4 HXd v2'
            obtain ⟨⟨v0, v1, v2⟩, g0, g1, g2⟩ := three_of HX4.var
            have v2A : ∀ o, (w4.alloc o).cell? ⟨L, 2, none⟩ = some (.slice aq j cq) := fun o => (World.cell?_alloc_lt _ _ _ (World.block_lt_of_cell? _ _ v2)).trans v2
            refine wpAnyH_take (i := 4) (v := .int .i64 (1 + x)) rfl (by kernel_rfl) (by kernel_rfl) (by kernel_rfl) (fun _ _ _ h => h) (Or.inl ⟨rfl, fun V hV => by go_simp; exact wrap_small' _ (by omega) (by omega)⟩) trivial ?_
            refine wpAnyH_ready (rs := [1, 5]) (by kernel_rfl) (by simp) (AllReadyH.cons rfl (fun K hK => ?_) (AllReadyH.cons rfl (fun K hK => ?_) AllReadyH.nil))
          case' refine_2.refine_1 =>
            go_simp
            refine hK.out _ _ trivial (fun _ => ?_)
            clear hK K
            refine wpAnyH_ready (rs := [5]) (by kernel_rfl) (by simp) (AllReadyH.cons rfl (fun K hK => ?_) AllReadyH.nil)
            go_simp
            refine hK.out _ _ trivial (fun _ => ?_)
            clear hK K v0 v1 v2 g0 g1 g2 v2A
          case' refine_2.refine_2 =>
            go_simp
            refine hK.out _ _ trivial (fun _ => ?_)
            clear hK K
            refine wpAnyH_ready (rs := [1]) (by kernel_rfl) (by simp) (AllReadyH.cons rfl (fun K hK => ?_) AllReadyH.nil)
            go_simp
            refine hK.out _ _ trivial (fun _ => ?_)
            clear hK K v0 v1 v2 g0 g1 g2 v2A
          all_goals
            have hown4 := HX4.own
            have hz4 := HX4.kp.size
            refine wpAnyH_ready (rs := [6]) (by kernel_rfl) (by simp) (AllReadyH.cons rfl (fun K hK => ?_) AllReadyH.nil)
            refine gn_wanted rfl (wp_append_own _ (.tmp 33) (.tmp 37) 23 rfl w.heap.size 2 i0 (.int .i64 0) 1 8 Tryd.underlying23 hi0 hz0 hz1 hz2 rfl (by decide) (.slice aq j cq) j (i64G csq) rfl (hown4.alloc _) ⟨_, 0, none⟩ 1 1 [.int .i64 (1 + x)] rfl rfl one_cell (gn_one _) (by unfold maxLen; omega) (by omega) (by simp; omega) (fun v' w7 hown7 hg7 _ => ?_))
            obtain ⟨a5, c5, rfl, ⟨p1, p2⟩, hR5⟩ := HX4.push (v := v') (W' := w7) (o := .cells #[.int .i64 (1 + x)] 2) hg7 hown7
            refine hK.out _ _ trivial (fun _ => ?_)
            have HR5 : Hid (∃ s' a' c' cs', Nst w (w7.setCell ⟨L, 2, none⟩ (.slice a5 (j + 1) c5)) B N s' L nm z9 a' (j + 1) c' cs') := ⟨_, _, _, _, hR5⟩
            clear hK K hg7 hown7 hown4 hR5
            refine wpAnyH_take (i := 7) (v := .pointer (some ⟨L, 2, none⟩)) rfl (by kernel_rfl) (by kernel_rfl) (by kernel_rfl) (fun _ _ _ h => h) (Or.inl ⟨rfl, fun V hV => by go_simp⟩) trivial ?_
            refine wpAnyH_ready (rs := [8]) (by kernel_rfl) (by simp) (AllReadyH.cons rfl (fun K hK => ?_) AllReadyH.nil)
            go_simp
            refine hK.out _ _ trivial (fun _ => ?_)
            refine wpAnyH_done (by kernel_rfl) ?_ _
            clear hK K HX4
            go_wp2
            go_roundw
            case rel => first | exact ⟨j + 1, by omega, by go_num, HR5⟩ | (refine ⟨.int .i64 ((j : Int) + 1), ?_⟩; (repeat apply Exists.intro); exact ⟨⟨j + 1, by omega, by go_num, HR5⟩, rfl⟩)
            case measure => simp [intOf]; omega
        · obtain rfl : j = KK := by omega
          clear v0 v1 v2 g0 g1 g2
          go_wp2_with fail
          refine (l1NextF_any B N 16 sq _ HX.src (by omega) (by omega)).mono ?_
          rintro e wk ⟨rfl, hsk, hkk⟩
          obtain ⟨t0, t1⟩ := SV.next_range (s := sq) (m := 16) (by omega)
          have HY := Hid.out (HX.next hkk hsk)
          generalize sq.next 16 = xk at *
          generalize sq.rest 16 = sk at *
          clear hsk hkk HX
          obtain ⟨⟨v0, v1, v2⟩, g0, g1, g2⟩ := three_of HY.var
          obtain ⟨⟨r0, r1, r2⟩, q0, q1, q2⟩ := three_of HY.res
          have lk := (Array.getElem?_eq_some_iff.1 HY.var).1
          have lr := (Array.getElem?_eq_some_iff.1 HY.res).1
          have hLne : ¬ L = w.heap.size := by omega
          by_cases e2 : xk = 2
          · subst e2
            have HF := Hid.out ((HY.name ⟨#[]⟩).fin)
            clear HY
            go_wp2
            refine bodyPost_ret (v := .agg #[.string ⟨#[]⟩, .int .i64 z9, .slice aq j cq]) (by simp [results, Tryd.results16, go_sem, r0, r1, r2]) rfl ?_
            exact ⟨_, _, _, _, _, _, rfl, by decide, by omega, (HF _ _ _).1, (HF _ _ _).2⟩
          by_cases e0 : xk = 0
          · subst e0
            clear v0 v2 g0 g1 g2
            go_wp2_with fail
            have HYd := Hid.out HY.drew
            have v1' : wk.drew.cell? ⟨L, 1, none⟩ = some (.int .i64 z9) := v1
            refine wp_region_held_drew (S := fun _ => True) (by kernel_rfl) trivial (fun _ => ?_)
            clear HY v1 r0 r1 r2 q0 q1 q2 lk lr
            generalize wk.drew = W4 at *
            refine wpAnyH_take (i := 0) (v := .pointer (some ⟨L, 1, none⟩)) rfl (by kernel_rfl) (by kernel_rfl) (by kernel_rfl) (fun _ _ _ h => h) (Or.inl ⟨rfl, fun V hV => by go_simp⟩) trivial ?_
            refine wpAnyH_take (i := 2) (v := .pointer (some ⟨B, 0, none⟩)) rfl (by kernel_rfl) (by kernel_rfl) (by kernel_rfl) (fun _ _ _ h => h) (Or.inl ⟨rfl, fun V hV => by go_simp⟩) trivial ?_
            refine wpAnyH_ready (rs := [1, 3]) (by kernel_rfl) (by simp) (AllReadyH.cons rfl (fun K hK => ?_) (AllReadyH.cons rfl (fun K hK => ?_) AllReadyH.nil))
            case' refine_1 =>
              go_simp
              refine hK.out _ _ trivial (fun _ => ?_)
              clear hK K
              refine wpAnyH_ready (rs := [3]) (by kernel_rfl) (by simp) (AllReadyH.cons rfl (fun K hK => ?_) AllReadyH.nil)
              go_simp
              refine (l1NextF_any B N 70 sk _ HYd.src (by omega) (by omega)).mono ?_
              rintro e w4 ⟨rfl, hs4, hk4⟩
              refine hK.out _ _ trivial (fun _ => ?_)
              clear hK K
              obtain ⟨m0, m1⟩ := SV.next_range (s := sk) (m := 70) (by omega)
              have HX4 := Hid.out (HYd.next hk4 hs4)
              generalize sk.next 70 = x at *
              generalize sk.rest 70 = s4 at *
              clear hs4 hk4 HYd v1'
            case' refine_2 =>
              go_simp
              refine (l1NextF_any B N 70 sk _ HYd.src (by omega) (by omega)).mono ?_
              rintro e w4 ⟨rfl, hs4, hk4⟩
              refine hK.out _ _ trivial (fun _ => ?_)
              clear hK K
              obtain ⟨m0, m1⟩ := SV.next_range (s := sk) (m := 70) (by omega)
              have HX4 := Hid.out (HYd.next hk4 hs4)
              generalize sk.next 70 = x at *
              generalize sk.rest 70 = s4 at *
              clear hs4 hk4 HYd v1'
              obtain ⟨⟨v0, v1, v2⟩, g0, g1, g2⟩ := three_of HX4.var
              refine wpAnyH_ready (rs := [1]) (by kernel_rfl) (by simp) (AllReadyH.cons rfl (fun K hK => ?_) AllReadyH.nil)
              go_simp
              refine hK.out _ _ trivial (fun _ => ?_)
              clear hK K v0 v1 v2 g0 g1 g2
            all_goals
              refine wpAnyH_take (i := 4) (v := .int .i64 (z9 + x)) rfl (by kernel_rfl) (by kernel_rfl) (by kernel_rfl) (fun _ _ _ h => h) (Or.inl ⟨rfl, fun V hV => by go_simp; exact wrap_small' _ (by omega) (by omega)⟩) trivial ?_
              refine wpAnyH_take (i := 5) (v := .int .i64 (z9 + x - 35)) rfl (by kernel_rfl) (by kernel_rfl) (by kernel_rfl) (fun _ _ _ h => h) (Or.inl ⟨rfl, fun V hV => by go_simp; simp [IntKind.wrap, IntKind.signed, IntKind.bits]; omega⟩) trivial ?_
              refine wpAnyH_take (i := 6) (v := .pointer (some ⟨L, 1, none⟩)) rfl (by kernel_rfl) (by kernel_rfl) (by kernel_rfl) (fun _ _ _ h => h) (Or.inl ⟨rfl, fun V hV => by go_simp⟩) trivial ?_
              obtain ⟨⟨v0, v1, v2⟩, g0, g1, g2⟩ := three_of HX4.var
              obtain ⟨⟨r0, r1, r2⟩, q0, q1, q2⟩ := three_of HX4.res
              have lk := (Array.getElem?_eq_some_iff.1 HX4.var).1
              have lr := (Array.getElem?_eq_some_iff.1 HX4.res).1
              have HF := Hid.out ((HX4.size (z9 + x - 35)).fin)
              refine wpAnyH_ready (rs := [7]) (by kernel_rfl) (by simp) (AllReadyH.cons rfl (fun K hK => ?_) AllReadyH.nil)
              go_simp
              refine hK.out _ _ trivial (fun _ => ?_)
              refine wpAnyH_done (by kernel_rfl) ?_ _
              clear hK K HX4
              go_wp2
              refine bodyPost_ret (v := .agg #[.string nm, .int .i64 (z9 + x - 35), .slice aq j cq]) (by simp [results, Tryd.results16, go_sem, r0, r1, r2]) rfl ?_
              exact ⟨_, _, _, _, _, _, rfl, hnm, by omega, (HF _ _ _).1, (HF _ _ _).2⟩
          by_cases e1 : xk = 1
          · subst e1
            by_cases hj0 : 0 < j
            · clear v0 v1 g0 g1
              obtain ⟨g, rfl, hcq, hgw⟩ := HY.addr hj0
              go_wp2_with fail
              have HYd := Hid.out HY.drew
              have v2' : wk.drew.cell? ⟨L, 2, none⟩ = some (.slice (some ⟨g, 0, none⟩) j cq) := v2
              refine wp_region_held_drew (S := fun _ => True) (by kernel_rfl) trivial (fun _ => ?_)
              clear HY v2 g2 r0 r1 r2 q0 q1 q2 lk lr
              generalize wk.drew = W4 at *
              refine wpAnyH_take (i := 0) (v := .pointer (some ⟨L, 2, none⟩)) rfl (by kernel_rfl) (by kernel_rfl) (by kernel_rfl) (fun _ _ _ h => h) (Or.inl ⟨rfl, fun V hV => by go_simp⟩) trivial ?_
              refine wpAnyH_take (i := 2) (v := .pointer (some ⟨B, 0, none⟩)) rfl (by kernel_rfl) (by kernel_rfl) (by kernel_rfl) (fun _ _ _ h => h) (Or.inl ⟨rfl, fun V hV => by go_simp⟩) trivial ?_
              refine wpAnyH_take (i := 5) (v := .pointer (some ⟨B, 0, none⟩)) rfl (by kernel_rfl) (by kernel_rfl) (by kernel_rfl) (fun _ _ _ h => h) (Or.inl ⟨rfl, fun V hV => by go_simp⟩) trivial ?_
              refine wpAnyH_ready (rs := [1, 3]) (by kernel_rfl) (by simp) (AllReadyH.cons rfl (fun K hK => ?_) (AllReadyH.cons rfl (fun K hK => ?_) AllReadyH.nil))
              case' refine_1 =>
                go_simp
                refine hK.out _ _ trivial (fun _ => ?_)
                clear hK K
                refine wpAnyH_ready (rs := [3]) (by kernel_rfl) (by simp) (AllReadyH.cons rfl (fun K hK => ?_) AllReadyH.nil)
                go_simp
                refine (l1NextF_any B N 2 sk _ HYd.src (by omega) (by omega)).mono ?_
                rintro e w4 ⟨rfl, hs4, hk4⟩
                refine hK.out _ _ trivial (fun _ => ?_)
                clear hK K
                obtain ⟨xa0, xa1⟩ := SV.next_range (s := sk) (m := 2) (by omega)
                have HX4 := Hid.out (HYd.next hk4 hs4)
                generalize sk.next 2 = xa at *
                generalize sk.rest 2 = s4 at *
                clear hs4 hk4 HYd v2'
                refine wpAnyH_take (i := 4) (v := .int .i64 (xa * 65536)) rfl (by kernel_rfl) (by kernel_rfl) (by kernel_rfl) (fun _ _ _ h => h) (Or.inl ⟨rfl, fun V hV => by go_simp; exact wrap_small' _ (by omega) (by omega)⟩) trivial ?_
                refine wpAnyH_ready (rs := [6]) (by kernel_rfl) (by simp) (AllReadyH.cons rfl (fun K hK => ?_) AllReadyH.nil)
                go_simp
                refine (l1NextF_any B N 2 s4 _ HX4.src (by omega) (by omega)).mono ?_
                rintro e w6 ⟨rfl, hs4, hk4⟩
                refine hK.out _ _ trivial (fun _ => ?_)
                clear hK K
                obtain ⟨xb0, xb1⟩ := SV.next_range (s := s4) (m := 2) (by omega)
                have HX6 := Hid.out (HX4.next hk4 hs4)
                generalize s4.next 2 = xb at *
                generalize s4.rest 2 = s6 at *
                clear hs4 hk4 HX4
                refine wpAnyH_take (i := 7) (v := .int .i64 (xa * 65536 - xb)) rfl (by kernel_rfl) (by kernel_rfl) (by kernel_rfl) (fun _ _ _ h => h) (Or.inl ⟨rfl, fun V hV => by go_simp; simp [IntKind.wrap, IntKind.signed, IntKind.bits]; omega⟩) trivial ?_
              case' refine_2 =>
                go_simp
                refine (l1NextF_any B N 2 sk _ HYd.src (by omega) (by omega)).mono ?_
                rintro e w4 ⟨rfl, hs4, hk4⟩
                refine hK.out _ _ trivial (fun _ => ?_)
                clear hK K
                obtain ⟨xa0, xa1⟩ := SV.next_range (s := sk) (m := 2) (by omega)
                have HX4 := Hid.out (HYd.next hk4 hs4)
                generalize sk.next 2 = xa at *
                generalize sk.rest 2 = s4 at *
                clear hs4 hk4 HYd v2'
                refine wpAnyH_take (i := 4) (v := .int .i64 (xa * 65536)) rfl (by kernel_rfl) (by kernel_rfl) (by kernel_rfl) (fun _ _ _ h => h) (Or.inl ⟨rfl, fun V hV => by go_simp; exact wrap_small' _ (by omega) (by omega)⟩) trivial ?_
                obtain ⟨⟨v0, v1, v2⟩, g0, g1, g2⟩ := three_of HX4.var
                refine wpAnyH_ready (rs := [1, 6]) (by kernel_rfl) (by simp) (AllReadyH.cons rfl (fun K hK => ?_) (AllReadyH.cons rfl (fun K hK => ?_) AllReadyH.nil))
              case' refine_2.refine_1 =>
                go_simp
                refine hK.out _ _ trivial (fun _ => ?_)
                clear hK K
                clear v0 v1 v2 g0 g1 g2
                refine wpAnyH_ready (rs := [6]) (by kernel_rfl) (by simp) (AllReadyH.cons rfl (fun K hK => ?_) AllReadyH.nil)
                go_simp
                refine (l1NextF_any B N 2 s4 _ HX4.src (by omega) (by omega)).mono ?_
                rintro e w6 ⟨rfl, hs4, hk4⟩
                refine hK.out _ _ trivial (fun _ => ?_)
                clear hK K
                obtain ⟨xb0, xb1⟩ := SV.next_range (s := s4) (m := 2) (by omega)
                have HX6 := Hid.out (HX4.next hk4 hs4)
                generalize s4.next 2 = xb at *
                generalize s4.rest 2 = s6 at *
                clear hs4 hk4 HX4
                refine wpAnyH_take (i := 7) (v := .int .i64 (xa * 65536 - xb)) rfl (by kernel_rfl) (by kernel_rfl) (by kernel_rfl) (fun _ _ _ h => h) (Or.inl ⟨rfl, fun V hV => by go_simp; simp [IntKind.wrap, IntKind.signed, IntKind.bits]; omega⟩) trivial ?_
              case' refine_2.refine_2 =>
                go_simp
                clear v0 v1 v2 g0 g1 g2
                refine (l1NextF_any B N 2 s4 _ HX4.src (by omega) (by omega)).mono ?_
                rintro e w6 ⟨rfl, hs4, hk4⟩
                refine hK.out _ _ trivial (fun _ => ?_)
                clear hK K
                obtain ⟨xb0, xb1⟩ := SV.next_range (s := s4) (m := 2) (by omega)
                have HX6 := Hid.out (HX4.next hk4 hs4)
                generalize s4.next 2 = xb at *
                generalize s4.rest 2 = s6 at *
                clear hs4 hk4 HX4
                refine wpAnyH_take (i := 7) (v := .int .i64 (xa * 65536 - xb)) rfl (by kernel_rfl) (by kernel_rfl) (by kernel_rfl) (fun _ _ _ h => h) (Or.inl ⟨rfl, fun V hV => by go_simp; simp [IntKind.wrap, IntKind.signed, IntKind.bits]; omega⟩) trivial ?_
                obtain ⟨⟨v0, v1, v2⟩, g0, g1, g2⟩ := three_of HX6.var
                refine wpAnyH_ready (rs := [1]) (by kernel_rfl) (by simp) (AllReadyH.cons rfl (fun K hK => ?_) AllReadyH.nil)
                go_simp
                refine hK.out _ _ trivial (fun _ => ?_)
                clear hK K
                clear v0 v1 v2 g0 g1 g2
              all_goals
                refine wpAnyH_take (i := 8) (v := .pointer (some ⟨g, 0, none⟩)) rfl (by kernel_rfl) (by kernel_rfl) (by kernel_rfl) (fun _ _ _ h => h) (Or.inl ⟨rfl, fun V hV => by go_simp; try first | omega | (intro h; omega)⟩) trivial ?_
                obtain ⟨⟨v0, v1, v2⟩, g0, g1, g2⟩ := three_of HX6.var
                obtain ⟨⟨r0, r1, r2⟩, q0, q1, q2⟩ := three_of HX6.res
                have lk := (Array.getElem?_eq_some_iff.1 HX6.var).1
                have lr := (Array.getElem?_eq_some_iff.1 HX6.res).1
                obtain ⟨⟨f1, f2⟩, f3, f4⟩ := HX6.far rfl
                obtain ⟨⟨yy, cy⟩, fy, cs9, hZ⟩ := HX6.set0 rfl hj0 (xa * 65536 - xb)
                have HF := Hid.out hZ.fin
                clear HX6 hZ
                refine wpAnyH_ready (rs := [9]) (by kernel_rfl) (by simp) (AllReadyH.cons rfl (fun K hK => ?_) AllReadyH.nil)
                go_simp
                refine hK.out _ _ trivial (fun _ => ?_)
                refine wpAnyH_done (by kernel_rfl) ?_ _
                clear hK K
                go_wp2
                refine bodyPost_ret (v := .agg #[.string nm, .int .i64 z9, .slice (some ⟨g, 0, none⟩) j cq]) (by simp [results, Tryd.results16, go_sem, r0, r1, r2]) rfl ?_
                exact ⟨_, _, _, _, _, _, rfl, hnm, by omega, (HF _ _ _).1, (HF _ _ _).2⟩
            · obtain rfl : j = 0 := by omega
              have HF := Hid.out HY.fin
              clear HY
              go_wp2
              refine bodyPost_ret (v := .agg #[.string nm, .int .i64 z9, .slice aq 0 cq]) (by simp [results, Tryd.results16, go_sem, r0, r1, r2]) rfl ?_
              exact ⟨_, _, _, _, _, _, rfl, hnm, by omega, (HF _ _ _).1, (HF _ _ _).2⟩
          by_cases e3 : xk = 3
          · subst e3
            have HYs := Hid.out (HY.size 1409)
            have hz4 := HYs.kp.size
            clear HY
            go_wp2_with (at_builtin; refine wpList_append_own _ rfl _ _ 23 rfl w.heap.size 2 i0 (.int .i64 0) 1 8 Tryd.underlying23 hi0 hz0 hz1 hz2 rfl (by decide) _ _ _ rfl (HYs.own.alloc _) ⟨wk.heap.size, 0, none⟩ 1 1 [.int .i64 1] rfl rfl (one_cellN (by simp)) (gn_one _) (by unfold maxLen; omega) (by omega) (by simp; omega) ?_)
            intro v' w7 hown7 hg7 _
            obtain ⟨k1, k2⟩ := HYs.grown hg7
            obtain ⟨a5, c5, rfl, ⟨p1, p2⟩, hR5⟩ := HYs.push (v := v') (W' := w7) hg7 hown7
            have HF := Hid.out hR5.fin
            clear HYs hg7 hown7 hR5 v0 v1 v2 g0 g1 g2 r0 r1 r2 q0 q1 q2 p1 p2
            obtain ⟨⟨v0, v1, v2⟩, g0, g1, g2⟩ := three_of k1
            obtain ⟨⟨r0, r1, r2⟩, q0, q1, q2⟩ := three_of k2
            have lk' := (Array.getElem?_eq_some_iff.1 k1).1
            have lr' := (Array.getElem?_eq_some_iff.1 k2).1
            clear k1 k2
            go_wp2
            refine bodyPost_ret (v := .agg #[.string nm, .int .i64 1409, .slice a5 (j + 1) c5]) (by simp [results, Tryd.results16, go_sem, r0, r1, r2]) rfl ?_
            exact ⟨_, _, _, _, _, _, rfl, hnm, by omega, (HF _ _ _).1, (HF _ _ _).2⟩
          · have n0 : (xk == 0) = false := by simpa using e0
            have n1 : (xk == 1) = false := by simpa using e1
            have n2 : (xk == 2) = false := by simpa using e2
            have n3 : (xk == 3) = false := by simpa using e3
            have HF := Hid.out HY.fin
            clear HY e0 e1 e2 e3
            go_wp2
            refine bodyPost_ret (v := .agg #[.string nm, .int .i64 z9, .slice aq j cq]) (by simp [results, Tryd.results16, go_sem, r0, r1, r2]) rfl ?_
            exact ⟨_, _, _, _, _, _, rfl, hnm, by omega, (HF _ _ _).1, (HF _ _ _).2⟩
end Go.Proofs.YtkkammbfomiofaaDoor
