/-
  Draws as functions: l1DrawGood.
-/
import Derived.Test.YtkkammbfomiofaaGe
import Derived.Test.YtkkammbfomiofaaBad
import Derived.Test.YtkkammbfomiofaaDbk
namespace Go.Proofs.Ytkkammbfomiofaa
open Go.RowKit
set_option linter.unusedSimpArgs false
set_option linter.unusedVariables false

/-- A disk's bytes and its writes. -/
abbrev DV := List Int × List (Int × List Int)
def DV.write (D : DV) (b : Int) (X : List Int) : DV := (dwX D.1.length D.1 D.2 b 64, dwW D.1.length D.2 b 64 X)
def DV.barrier (D : DV) : DV := (dbX D.1.length D.1 D.2, [])
def good1 : Nat → Int → SV × DV → SV × DV
  | 0, _, p => p
  | k + 1, i, p => good1 k (i + 1) (if 0 < p.1.next 3 then ((p.1.rest 3).fillS, p.2.write i (p.1.rest 3).fill) else (p.1.rest 3, p.2))
def good2 (n : Int) : Nat → SV × DV → SV × DV
  | 0, p => p
  | k + 1, p => good2 n k ((p.1.rest n).fillS, p.2.write (p.1.next n) (p.1.rest n).fill)
def goodB (n : Int) (p : SV × DV) : SV × DV := good2 n (p.1.next (3 + p.1.size)).toNat (p.1.rest (3 + p.1.size), p.2.barrier)
/-- The disk that l1DrawGood draws, and the source behind it. -/
def SV.good (s : SV) : SV × DV := goodB (1 + s.next 5) (good1 (1 + s.next 5).toNat 0 (s.rest 5, (newD (1 + s.next 5), [])))

theorem SV.fill_len (s : SV) : s.fill.length = 64 := by simp [SV.fill]
theorem DAt.xlen {T : Nat → Nat} {B : Nat} {w : World} {a : Option Addr} {n ca : Nat} {p : Option Addr} {m cp : Nat} {vs : List WV} {xs : List Int} {val : List (Int × List Int)} (h : DAt T B w a n ca p m cp vs xs val) : xs.length = n := by
  have := h.dur.1
  rw [u8s_len] at this
  omega
theorem DAt.keptL {T : Nat → Nat} {B L : Nat} {w w' : World} {c : Array Value} {a : Option Addr} {n ca : Nat} {p : Option Addr} {m cp : Nat} {vs : List WV} {xs : List Int} {val : List (Int × List Int)} (h : DAt T B w a n ca p m cp vs xs val) (hL : w.heap[L]? = some (.cells c 33 (0, 0))) (hk : Kept (fun g => g = L) w w') : DAt (fun g => if g = L then 0 else T g) B w' a n ca p m cp vs xs val := by
  have hne : ∀ g, (Value.slice a n ca).ownBlock = some g → g ≠ L := fun g hg e => tag_neD h.dur (o := .cells c 33 (0, 0)) hL (fun cur => cells_neD (by decide)) (by rw [← e]; exact hg)
  refine ⟨row_kept h.dur hk hne, ?_, h.len, h.val, h.dn, h.dm⟩
  exact ((h.pend.addZ hL (fun cur => cells_neD (by decide)) (fun cur => cells_neD (by decide))).kept hk (fun g hg => by simp [hg])).subZ (fun g hg => .inl hg)
/-- The variable in block L holds the disk D, whose memory lies from block K on. -/
def DCell (K L : Nat) (w : World) (D : DV) : Prop := K ≤ L ∧ ∃ T vs a n ca p m cp, w.heap[L]? = some (.cells #[.slice a n ca, .slice p m cp] 33 (0, 0)) ∧ DAt T K w a n ca p m cp vs D.1 D.2
theorem DCell.lt {K L : Nat} {w : World} {D : DV} (h : DCell K L w D) : L < w.heap.size := by
  obtain ⟨_, T, vs, a, n, ca, p, m, cp, hc, h⟩ := h
  exact (Array.getElem?_eq_some_iff.1 hc).1
theorem DCell.kept {K L : Nat} {w w' : World} {D : DV} {G : Nat → Prop} (h : DCell K L w D) (hk : Kept G w w') (hG : ∀ g, G g → g < K) : DCell K L w' D := by
  have hl := h.lt
  obtain ⟨hKL, T, vs, a, n, ca, p, m, cp, hc, h⟩ := h
  exact ⟨hKL, _, _, _, _, _, _, _, _, (hk.block L hl (fun h => by have := hG L h; omega)).trans hc, h.kept hk hG⟩
theorem DCell.below {K L : Nat} {w w' : World} {D : DV} (h : DCell K L w D) (hb : Below w.heap.size w w') : DCell K L w' D := h.kept (Kept.of_below hb (fun _ => False)) (fun _ h => h.elim)
theorem DCell.store {K L : Nat} {W : World} {x y : Value} {T : Nat → Nat} {a : Option Addr} {n ca : Nat} {p : Option Addr} {m cp : Nat} {vs : List WV} {D : DV} (hKL : K ≤ L) (hc : W.heap[L]? = some (.cells #[x, y] 33 (0, 0))) (h : DAt T K W a n ca p m cp vs D.1 D.2) :
    DCell K L ((W.setCell ⟨L, 0, none⟩ (.slice a n ca)).setCell ⟨L, 1, none⟩ (.slice p m cp)) D := by
  refine ⟨hKL, _, vs, a, n, ca, p, m, cp, ?_, h.keptL hc ((Kept.setCell W ⟨L, 0, none⟩ _ (fun g => g = L) rfl).trans (Kept.setCell _ ⟨L, 1, none⟩ _ (fun g => g = L) rfl))⟩
  simp [World.setCell, Array.getElem?_modify, hc]
theorem DCell.new {K : Nat} {W : World} {T : Nat → Nat} {a : Option Addr} {n ca : Nat} {p : Option Addr} {m cp : Nat} {vs : List WV} {D : DV} (hK : K ≤ W.heap.size) (h : DAt T K W a n ca p m cp vs D.1 D.2) :
    DCell K W.heap.size (W.alloc (.cells #[.slice a n ca, .slice p m cp] 33)) D :=
  ⟨hK, _, vs, a, n, ca, p, m, cp, heap_alloc_new W _, h.kept (Kept.alloc W _ (fun _ => False)) (fun _ h => h.elim)⟩
theorem kept_store {B L : Nat} {w W : World} (hk : Kept (fun g => g = B) w W) (hL : w.heap.size ≤ L) (u1 u2 : Value) : Kept (fun g => g = B) w ((W.setCell ⟨L, 0, none⟩ u1).setCell ⟨L, 1, none⟩ u2) := by
  have k2 := (Kept.setCell W ⟨L, 0, none⟩ u1 (fun g => g = L) rfl).trans (Kept.setCell _ ⟨L, 1, none⟩ u2 (fun g => g = L) rfl)
  refine ⟨hk.1, hk.2, hk.3, Nat.le_trans hk.size k2.size, fun j hj hjB => ?_⟩
  exact (k2.block j (Nat.lt_of_lt_of_le hj hk.size) (by omega)).trans (hk.block j hj hjB)
theorem SrcF.store {B N L : Nat} {W : World} {s : SV} (h : SrcF W B N s) (hB : B < L) (hN : N ≤ L) (u1 u2 : Value) : SrcF ((W.setCell ⟨L, 0, none⟩ u1).setCell ⟨L, 1, none⟩ u2) B N s :=
  h.kept ((Kept.setCell W ⟨L, 0, none⟩ u1 (fun g => g = L) rfl).trans (Kept.setCell _ ⟨L, 1, none⟩ u2 (fun g => g = L) rfl)) (by omega) (fun g hg => by omega)
theorem SAns.below {w w' : World} {e : Ending} {xs : List Int} {val : List (Int × List Int)} (h : SAns w w' e xs val) : Below w.heap.size w w' := by
  obtain ⟨T, vs, a, n, ca, p, m, cp, rfl, h, hb⟩ := h
  exact hb
theorem wf_i64 {b : Int} (h1 : -9223372036854775808 ≤ b) (h2 : b ≤ 9223372036854775807) : (Lit.int .i64 b).wf = true := by
  simp [Lit.wf, IntKind.min, IntKind.max, IntKind.signed, IntKind.bits]; omega
/-- One write into the drawn disk. -/
theorem DAt.write {T : Nat → Nat} {L : Nat} {w : World} {a : Option Addr} {n ca : Nat} {p : Option Addr} {m cp : Nat} {vs : List WV} {D : DV} (h : DAt T L w a n ca p m cp vs D.1 D.2) {b : Int} (hb : (Lit.int .i64 b).wf = true) {xa : Option Addr} {xc : Nat} {X : List Int} {B' : Nat} (hX : w.ownsRow B' 5 1 (.slice xa 64 xc) 64 (u8s X)) (hL : L ≤ w.heap.size) :
    Calls Try.prog 12 #[.agg #[.slice a n ca, .slice p m cp], .int .i64 b, .slice xa 64 xc] w fun e w' => ∃ T vs a n ca p m cp, e = .returned (.agg #[.slice a n ca, .slice p m cp]) ∧ DAt T L w' a n ca p m cp vs (D.write b X).1 (D.write b X).2 ∧ Below w.heap.size w w' := by
  obtain ⟨a9, c9, e9, r9⟩ := owns_row hX
  injection e9 with e9
  subst e9
  have hr : IRow .u8 w xa 64 X := r9.read
  refine (diskWrite_spec a p n ca m cp D.1 vs b xa 64 xc X w h.own.dur.read h.own.pend.read hr h.cap h.dn h.dm (by omega) hb).mono ?_
  rintro e w' ⟨T', vs', a', n', ca', p', m', cp', rfl, h', hbl⟩
  refine ⟨T', vs', a', n', ca', p', m', cp', rfl, ?_, hbl⟩
  rw [h.val, ← h.xlen] at h'
  exact h'.base hL

set_option maxHeartbeats 4000000 in
set_option maxRecDepth 100000 in
theorem l1DrawGood_any (B N : Nat) (s : SV) (w : World) (h : SrcF w B N s) (hN : N ≤ w.heap.size) :
    Calls Try.prog 61 #[.pointer (some ⟨B, 0, none⟩)] w fun e w' => ∃ T vs a n ca p m cp, e = .returned (.agg #[.slice a n ca, .slice p m cp]) ∧ DAt T w.heap.size w' a n ca p m cp vs s.good.2.1 s.good.2.2 ∧ SrcF w' B N s.good.1 ∧ Kept (fun g => g = B) w w' := by
  have hBl := h.lt
  obtain ⟨wA, hwA⟩ : ∃ wA, w.alloc (Obj.cells #[.slice none 0 0, .slice none 0 0] 33) = wA := ⟨_, rfl⟩
  have bA : Below w.heap.size w wA := by rw [← hwA]; exact (Below.refl _ w).alloc (Nat.le_refl _) _
  have cA : wA.heap[w.heap.size]? = some (.cells #[.slice none 0 0, .slice none 0 0] 33 (0, 0)) := by rw [← hwA]; exact heap_alloc_new w _
  have sA : wA.heap.size = w.heap.size + 1 := by rw [← hwA]; simp
  have HWA : Hid (w.alloc (Obj.cells #[.slice none 0 0, .slice none 0 0] 33) = wA) := hwA
  clear hwA
  go_enter Try.func61, Try.ntmps61
  go_wp2_with fail
  rw [HWA.out]
  refine (l1NextF_any B N 5 s _ (h.below bA) (by omega) (by omega)).mono ?_
  rintro e w1 ⟨rfl, hs1, hk1⟩
  obtain ⟨b0, b1⟩ := SV.next_range (s := s) (m := 5) (by omega)
  obtain ⟨x, hx⟩ : ∃ x, s.next 5 = x := ⟨_, rfl⟩
  rw [hx] at b0 b1 ⊢
  have HX : Hid (s.next 5 = x) := hx
  have HSZ : Hid (w.heap.size + 1 ≤ w1.heap.size) := by have := hk1.size; show _ ≤ _; omega
  have c1 := (hk1.block _ (by omega) (by omega)).trans cA
  have hk1' : Kept (fun g => g = B) w w1 := (Kept.of_below bA _).trans hk1
  clear hx h hk1 cA bA sA HWA
  go_wp2_with fail
  obtain ⟨M, hM⟩ : ∃ M : Nat, 1 + x = (M : Int) := ⟨(1 + x).toNat, by omega⟩
  rw [hM]
  have HM : Hid (1 + s.next 5 = (M : Int)) := by show _ = _; rw [HX.out]; exact hM
  have m1 : 1 ≤ M := by omega
  have m5 : M ≤ 5 := by omega
  clear hM b0 b1 HX
  refine (newDisk_room (M : Int) _ (by omega)).mono ?_
  rintro e w2 ⟨T, vs, a, n, ca, p, m, cp, rfl, hA, hb2⟩
  have hA := hA.base HSZ.out
  have c2 := (hb2.block _ (by have := HSZ.out; omega)).trans c1
  have hn : n = M * 64 := by rw [← hA.xlen]; simp only [newD]; rw [if_pos (by omega)]; simp
  have hnn : n ≤ 2097152 := hA.dn
  subst hn
  have hq : ((M * 64 : Nat) : Int) / 64 = (M : Int) := by omega
  have sw : w.heap.size + 1 ≤ w2.heap.size := Nat.le_trans HSZ.out hb2.size
  obtain ⟨wD, hwD⟩ : ∃ wD, w2.alloc (.cells #[.slice a (M * 64) ca, .slice p m cp] 33) = wD := ⟨_, rfl⟩
  have bD : Below w2.heap.size w2 wD := by rw [← hwD]; exact (Below.refl _ w2).alloc (Nat.le_refl _) _
  have cD : wD.heap[w2.heap.size]? = some (.cells #[.slice a (M * 64) ca, .slice p m cp] 33 (0, 0)) := by rw [← hwD]; exact heap_alloc_new w2 _
  have hS4 : SrcF wD B N (s.rest 5) := (hs1.below hb2).below bD
  have hK4 : Kept (fun g => g = B) w wD := (hk1'.trans (Kept.of_below hb2 _)).trans (Kept.of_below bD _)
  have hD4 : DCell (w.heap.size + 1) w2.heap.size wD (newD M, []) := by rw [← hwD]; exact DCell.new (D := (newD M, [])) sw hA
  have hR4 : wD.heap[w.heap.size]? = some (.cells #[.slice none 0 0, .slice none 0 0] 33 (0, 0)) := (bD.block _ (by omega)).trans c2
  obtain ⟨L, hL⟩ : ∃ L, w2.heap.size = L := ⟨_, rfl⟩
  rw [hL] at hD4 sw cD
  obtain ⟨d1, d2, d3, d4⟩ := two_cells cD
  clear hs1 hk1' hb2 c1 hA c2 bD
  go_wp2_with fail
  try rw [hL]
  try rw [hwD]
  refine (l1Blocks_any a p (M * 64) ca m cp _ hnn).mono ?_
  rintro e w4 ⟨rfl, hb4⟩
  rw [hq]
  have HS4 : Hid (SrcF w4 B N (s.rest 5)) := hS4.below hb4
  have HK4 : Hid (Kept (fun g => g = B) w w4) := hK4.trans (Kept.of_below hb4 _)
  have HD4 : Hid (DCell (w.heap.size + 1) L w4 (newD M, [])) := hD4.below hb4
  have HR4 : Hid (w4.heap[w.heap.size]? = some (.cells #[.slice none 0 0, .slice none 0 0] 33 (0, 0))) := (hb4.block _ (Array.getElem?_eq_some_iff.1 hR4).1).trans hR4
  clear hS4 hK4 hD4 hR4 d1 d2 d3 d4 cD hwD hb4
  go_wp2
  go_loopw [5] (fun i wr => ∃ (k : Nat) (s' : SV) (D : DV), k ≤ M ∧ i = .int .i64 k ∧ Hid (good1 (M - k) k (s', D) = good1 M 0 (s.rest 5, (newD M, []))) ∧ Hid (DCell (w.heap.size + 1) L wr D) ∧ Hid (wr.heap[w.heap.size]? = some (.cells #[.slice none 0 0, .slice none 0 0] 33 (0, 0))) ∧ Hid (SrcF wr B N s') ∧ Hid (Kept (fun g => g = B) w wr)) (fun i _ => M - (intOf i).toNat)
  case atStart => exact ⟨0, _, _, Nat.zero_le _, rfl, rfl, HD4, HR4, HS4, HK4⟩
  case round =>
    clear HD4 HS4 HK4 HR4 hL
    obtain ⟨k, s', D, hk, rfl, hg, hd, hr, hs, hkp⟩ := hrel
    by_cases hlt : k < M
    · go_wp2_with fail
      refine (l1NextF_any B N 3 s' _ hs.out (by omega) (by omega)).mono ?_
      rintro e w5 ⟨rfl, hs5, hk5⟩
      have HD5 : Hid (DCell (w.heap.size + 1) L w5 D) := hd.out.kept hk5 (fun g hg => by omega)
      have HS5 : Hid (SrcF w5 B N (s'.rest 3)) := hs5
      have HK5 : Hid (Kept (fun g => g = B) w w5) := hkp.out.trans hk5
      have hGS : good1 (M - k) k (s', D) = good1 (M - (k + 1)) ((k : Int) + 1) (if 0 < s'.next 3 then ((s'.rest 3).fillS, D.write k (s'.rest 3).fill) else (s'.rest 3, D)) := by
        rw [show M - k = (M - (k + 1)) + 1 by omega]; rfl
      rw [hGS] at hg
      have hr5 : Hid (w5.heap[w.heap.size]? = some (.cells #[.slice none 0 0, .slice none 0 0] 33 (0, 0))) := (hk5.block _ (Array.getElem?_eq_some_iff.1 hr.out).1 (by omega)).trans hr.out
      clear hs5 hk5 hd hs hkp hGS hr
      by_cases hy : 0 < s'.next 3
      · rw [if_pos hy] at hg
        obtain ⟨y, hyy⟩ : ∃ y, s'.next 3 = y := ⟨_, rfl⟩
        rw [hyy] at hy ⊢
        obtain ⟨_, T, vs, a, n, ca, p, m, cp, c5, hA5⟩ := HD5.out
        obtain ⟨d1, d2, d3, d4⟩ := two_cells c5
        go_wp2
        refine wp_region_held_drew (S := fun _ => True) (by kernel_rfl) trivial (fun _ => ?_)
        refine wpAnyH_take (i := 1) (v := .int .i64 k) rfl (by kernel_rfl) (by kernel_rfl) (by kernel_rfl) (fun _ _ _ h => h) (Or.inl ⟨rfl, fun V hV => by go_simp⟩) trivial ?_
        refine wpAnyH_take (i := 2) (v := .pointer (some ⟨B, 0, none⟩)) rfl (by kernel_rfl) (by kernel_rfl) (by kernel_rfl) (fun _ _ _ h => h) (Or.inl ⟨rfl, fun V hV => by go_simp⟩) trivial ?_
        refine wpAnyH_ready (rs := [0, 3]) (by kernel_rfl) (by simp) (AllReadyH.cons rfl (fun K hK => ?_) (AllReadyH.cons rfl (fun K hK => ?_) AllReadyH.nil))
        case' refine_1 =>
          go_simp
          refine hK.out _ _ trivial (fun _ => ?_)
          clear hK K
          refine wpAnyH_ready (rs := [3]) (by kernel_rfl) (by simp) (AllReadyH.cons rfl (fun K hK => ?_) AllReadyH.nil)
          go_simp
          refine (l1Fill_any B N (s'.rest 3) _ (HS5.out.below ((Below.refl _ w5).drew)) (by have := HK5.out.size; simp; omega)).mono ?_
          rintro e w6 ⟨xa, xc, rfl, ho6, hs6, hk6⟩
          refine hK.out _ _ trivial (fun _ => ?_)
          clear hK K
          have z6 := hk6.size
          have c6 : w6.heap[L]? = some (.cells #[.slice a n ca, .slice p m cp] 33 (0, 0)) := (hk6.block L (Array.getElem?_eq_some_iff.1 c5).1 (by omega)).trans c5
          have HA6 : Hid (DAt _ (w.heap.size + 1) w6 a n ca p m cp vs D.1 D.2) := hA5.kept ((Kept.drew w5 _).trans hk6) (fun g hg => by omega)
          have HS6 : Hid (SrcF w6 B N (s'.rest 3).fillS) := hs6
          have HK6 : Hid (Kept (fun g => g = B) w w6) := (HK5.out.trans (Kept.drew w5 _)).trans hk6
          have HO6 : Hid (w6.ownsRow w5.drew.heap.size 5 1 (.slice xa 64 xc) 64 (u8s (s'.rest 3).fill)) := ho6
          have HR6 : Hid (w6.heap[w.heap.size]? = some (.cells #[.slice none 0 0, .slice none 0 0] 33 (0, 0))) := (hk6.block _ (Array.getElem?_eq_some_iff.1 hr5.out).1 (by omega)).trans hr5.out
          clear hs6 hk6 ho6 hA5 d1 d2 d3 d4 HD5 HS5 HK5 hr5
          obtain ⟨d1, d2, d3, d4⟩ := two_cells c6
        case' refine_2 =>
          go_simp
          refine (l1Fill_any B N (s'.rest 3) _ (HS5.out.below ((Below.refl _ w5).drew)) (by have := HK5.out.size; simp; omega)).mono ?_
          rintro e w6 ⟨xa, xc, rfl, ho6, hs6, hk6⟩
          refine hK.out _ _ trivial (fun _ => ?_)
          clear hK K
          have z6 := hk6.size
          have c6 : w6.heap[L]? = some (.cells #[.slice a n ca, .slice p m cp] 33 (0, 0)) := (hk6.block L (Array.getElem?_eq_some_iff.1 c5).1 (by omega)).trans c5
          have HA6 : Hid (DAt _ (w.heap.size + 1) w6 a n ca p m cp vs D.1 D.2) := hA5.kept ((Kept.drew w5 _).trans hk6) (fun g hg => by omega)
          have HS6 : Hid (SrcF w6 B N (s'.rest 3).fillS) := hs6
          have HK6 : Hid (Kept (fun g => g = B) w w6) := (HK5.out.trans (Kept.drew w5 _)).trans hk6
          have HO6 : Hid (w6.ownsRow w5.drew.heap.size 5 1 (.slice xa 64 xc) 64 (u8s (s'.rest 3).fill)) := ho6
          have HR6 : Hid (w6.heap[w.heap.size]? = some (.cells #[.slice none 0 0, .slice none 0 0] 33 (0, 0))) := (hk6.block _ (Array.getElem?_eq_some_iff.1 hr5.out).1 (by omega)).trans hr5.out
          clear hs6 hk6 ho6 hA5 d1 d2 d3 d4 HD5 HS5 HK5 hr5
          obtain ⟨d1, d2, d3, d4⟩ := two_cells c6
          refine wpAnyH_ready (rs := [0]) (by kernel_rfl) (by simp) (AllReadyH.cons rfl (fun K hK => ?_) AllReadyH.nil)
          go_simp
          refine hK.out _ _ trivial (fun _ => ?_)
          clear hK K
        all_goals
          refine wpAnyH_ready (rs := [4]) (by kernel_rfl) (by simp) (AllReadyH.cons rfl (fun K hK => ?_) AllReadyH.nil)
          go_simp
          refine (DAt.write HA6.out (b := (k : Int)) (wf_i64 (by omega) (by omega)) HO6.out (by have := HK6.out.size; have := (Array.getElem?_eq_some_iff.1 c6).1; omega)).mono ?_
          rintro e w7 ⟨T7, vs7, a7, n7, ca7, p7, m7, cp7, rfl, hA7, hb7⟩
          refine hK.out _ _ trivial (fun _ => ?_)
          clear hK K
          have c7 := (hb7.block L (Array.getElem?_eq_some_iff.1 c6).1).trans c6
          have HD7 : Hid (DCell (w.heap.size + 1) L ((w7.setCell ⟨L, 0, none⟩ (.slice a7 n7 ca7)).setCell ⟨L, 1, none⟩ (.slice p7 m7 cp7)) (D.write k (s'.rest 3).fill)) := DCell.store sw c7 hA7
          have HS7 : Hid (SrcF ((w7.setCell ⟨L, 0, none⟩ (.slice a7 n7 ca7)).setCell ⟨L, 1, none⟩ (.slice p7 m7 cp7)) B N (s'.rest 3).fillS) := (HS6.out.below hb7).store (by omega) (by omega) _ _
          have HK7 : Hid (Kept (fun g => g = B) w ((w7.setCell ⟨L, 0, none⟩ (.slice a7 n7 ca7)).setCell ⟨L, 1, none⟩ (.slice p7 m7 cp7))) := kept_store (HK6.out.trans (Kept.of_below hb7 _)) (by omega) _ _
          have HR7 : Hid (((w7.setCell ⟨L, 0, none⟩ (.slice a7 n7 ca7)).setCell ⟨L, 1, none⟩ (.slice p7 m7 cp7)).heap[w.heap.size]? = some (.cells #[.slice none 0 0, .slice none 0 0] 33 (0, 0))) := by
            have h1 := (hb7.block _ (Array.getElem?_eq_some_iff.1 HR6.out).1).trans HR6.out
            have : L ≠ w.heap.size := by omega
            show _ = _
            rw [← h1]
            simp [World.setCell, Array.getElem?_modify, this]
          obtain ⟨f1, f2, f3, f4⟩ := two_cells c7
          clear hA7 hb7 c6 d1 d2 d3 d4 HA6 HO6 HS6 HK6 HR6 c7 z6
          refine wpAnyH_ready (rs := [5]) (by kernel_rfl) (by simp) (AllReadyH.cons rfl (fun K hK => ?_) AllReadyH.nil)
          go_simp
          refine hK.out _ _ trivial (fun _ => ?_)
          refine wpAnyH_done (by kernel_rfl) ?_ _
          clear hK K
          go_wp2
          go_roundw
          case rel => exact ⟨k + 1, _, _, by omega, by go_num, by push_cast; exact hg, HD7, HR7, HS7, HK7⟩
          case measure => simp [intOf]; omega
      · rw [if_neg hy] at hg
        have y0 : s'.next 3 ≤ 0 := by omega
        generalize s'.next 3 = y at *
        go_wp2
        go_roundw
        case rel => exact ⟨k + 1, _, _, by omega, by go_num, by push_cast; exact hg, HD5, hr5, HS5, HK5⟩
        case measure => simp [intOf]; omega
    · obtain rfl : M = k := by omega
      rw [Nat.sub_self] at hg
      have HG : Hid (good1 M 0 (s.rest 5, (newD M, [])) = (s', D)) := by
        have := hg.out
        simp only [good1] at this
        exact this.symm
      obtain ⟨_, T, vs, a, n, ca, p, m, cp, c5, hA5⟩ := hd.out
      obtain ⟨d1, d2, d3, d4⟩ := two_cells c5
      have HA5 := hA5
      have hS := hs.out
      clear hg hd
      go_wp2_with fail
      refine (diskBarrier_spec a p n ca m cp D.1 vs _ HA5.own.dur.read HA5.own.pend.read HA5.cap HA5.dn HA5.dm).mono ?_
      rintro e w6 ⟨T6, vs6, a6, n6, ca6, p6, m6, cp6, rfl, hA6, hb6⟩
      have c6 := (hb6.block L (Array.getElem?_eq_some_iff.1 c5).1).trans c5
      have hA6' : DAt T6 (w.heap.size + 1) w6 a6 n6 ca6 p6 m6 cp6 vs6 D.barrier.1 D.barrier.2 := by
        have := hA6.base (show w.heap.size + 1 ≤ wr.heap.size by have := (Array.getElem?_eq_some_iff.1 c5).1; omega)
        rw [HA5.val, ← HA5.xlen] at this
        exact this
      have hD7 : DCell (w.heap.size + 1) L ((w6.setCell ⟨L, 0, none⟩ (.slice a6 n6 ca6)).setCell ⟨L, 1, none⟩ (.slice p6 m6 cp6)) D.barrier := DCell.store sw c6 hA6'
      have hS7 : SrcF ((w6.setCell ⟨L, 0, none⟩ (.slice a6 n6 ca6)).setCell ⟨L, 1, none⟩ (.slice p6 m6 cp6)) B N s' := (hS.below hb6).store (by omega) (by omega) _ _
      have hK7 : Kept (fun g => g = B) w ((w6.setCell ⟨L, 0, none⟩ (.slice a6 n6 ca6)).setCell ⟨L, 1, none⟩ (.slice p6 m6 cp6)) := kept_store (hkp.out.trans (Kept.of_below hb6 _)) (by omega) _ _
      have hR7 : ((w6.setCell ⟨L, 0, none⟩ (.slice a6 n6 ca6)).setCell ⟨L, 1, none⟩ (.slice p6 m6 cp6)).heap[w.heap.size]? = some (.cells #[.slice none 0 0, .slice none 0 0] 33 (0, 0)) := by
        have h1 := (hb6.block _ (Array.getElem?_eq_some_iff.1 hr.out).1).trans hr.out
        have : L ≠ w.heap.size := by omega
        rw [← h1]
        simp [World.setCell, Array.getElem?_modify, this]
      obtain ⟨f1, f2, f3, f4⟩ := two_cells c6
      obtain ⟨w7, hw7⟩ : ∃ w7, (w6.setCell ⟨L, 0, none⟩ (.slice a6 n6 ca6)).setCell ⟨L, 1, none⟩ (.slice p6 m6 cp6) = w7 := ⟨_, rfl⟩
      rw [hw7] at hD7 hS7 hK7 hR7
      have HD7 : Hid (DCell (w.heap.size + 1) L w7 D.barrier) := hD7
      have HS7 : Hid (SrcF w7 B N s') := hS7
      have HK7 : Hid (Kept (fun g => g = B) w w7) := hK7
      have HR7 : Hid (w7.heap[w.heap.size]? = some (.cells #[.slice none 0 0, .slice none 0 0] 33 (0, 0))) := hR7
      have hz : 1 ≤ s'.size ∧ s'.size ≤ 7 := by obtain ⟨_, _, _, _, hok⟩ := hS7; exact ⟨hok.2.2.2.1, hok.2.2.2.2⟩
      obtain ⟨z1, z2⟩ := hz
      have g7 : w7.cell? ⟨B, 3, none⟩ = some (.int .i64 s'.size) := by obtain ⟨_, _, hc, _⟩ := hS7; exact (cells4s hc).1.2.2.2
      clear hD7 hS7 hK7 hR7 hA6' hA6 HA5 hA5 c5 d1 d2 d3 d4 hS c6 hb6 hs hkp hr
      go_wp2_with fail
      try rw [hw7]
      refine (l1NextF_any B N (3 + s'.size) s' _ HS7.out (by omega) (by omega)).mono ?_
      rintro e w8 ⟨rfl, hs8, hk8⟩
      obtain ⟨v0, v1⟩ := SV.next_range (s := s') (m := 3 + s'.size) (by omega)
      obtain ⟨V, hV⟩ : ∃ V : Nat, s'.next (3 + s'.size) = (V : Int) := ⟨(s'.next (3 + s'.size)).toNat, by omega⟩
      rw [hV] at v0 v1 ⊢
      have HV : Hid (s'.next (3 + s'.size) = (V : Int)) := hV
      have HS8 : Hid (SrcF w8 B N (s'.rest (3 + s'.size))) := hs8
      have HK8 : Hid (Kept (fun g => g = B) w w8) := HK7.out.trans hk8
      have HD8 : Hid (DCell (w.heap.size + 1) L w8 D.barrier) := HD7.out.kept hk8 (fun g hg => by omega)
      have HR8 : Hid (w8.heap[w.heap.size]? = some (.cells #[.slice none 0 0, .slice none 0 0] 33 (0, 0))) := (hk8.block _ (Array.getElem?_eq_some_iff.1 HR7.out).1 (by omega)).trans HR7.out
      have HGD : Hid (s.good = good2 M V (s'.rest (3 + s'.size), D.barrier)) := by
        show _ = _
        unfold SV.good goodB
        rw [HM.out, Int.toNat_natCast, HG.out]
        simp only [HV.out, Int.toNat_natCast]
      have V10 : V < 10 := by omega
      generalize 3 + s'.size = sz at *
      clear hs8 hk8 hV HD7 HS7 HK7 HR7 g7 hw7 f1 f2 f3 f4
      go_wp2
      go_loopw [6] (fun i wr => ∃ (k : Nat) (s2 : SV) (D' : DV), k ≤ V ∧ i = .int .i64 k ∧ Hid (s.good = good2 M k (s2, D')) ∧ Hid (DCell (w.heap.size + 1) L wr D') ∧ Hid (wr.heap[w.heap.size]? = some (.cells #[.slice none 0 0, .slice none 0 0] 33 (0, 0))) ∧ Hid (SrcF wr B N s2) ∧ Hid (Kept (fun g => g = B) w wr)) (fun i _ => (intOf i).toNat)
      case atStart => exact ⟨V, _, _, Nat.le_refl _, rfl, HGD, HD8, HR8, HS8, HK8⟩
      case round =>
        clear HGD HD8 HR8 HS8 HK8
        obtain ⟨k, s2, D', hk', rfl, hg, hd, hr5, HS5, HK5⟩ := hrel
        obtain ⟨_, T, vs, a, n, ca, p, m, cp, c5, hA5⟩ := hd.out
        obtain ⟨d1, d2, d3, d4⟩ := two_cells c5
        clear hd
        by_cases hlt : 0 < k
        · have hg' : Hid (s.good = good2 M (k - 1) ((s2.rest M).fillS, D'.write (s2.next M) (s2.rest M).fill)) := by
            have := hg.out
            rw [show k = (k - 1) + 1 by omega] at this
            exact this
          have hk0 : (0 : Int) < (k : Int) := by omega
          obtain ⟨y0, y1⟩ := SV.next_range (s := s2) (m := M) (by omega)
          clear hg
          go_wp2
          refine wp_region_held_drew (S := fun _ => True) (by kernel_rfl) trivial (fun _ => ?_)
          refine wpAnyH_take (i := 1) (v := .pointer (some ⟨B, 0, none⟩)) rfl (by kernel_rfl) (by kernel_rfl) (by kernel_rfl) (fun _ _ _ h => h) (Or.inl ⟨rfl, fun V hV => by go_simp⟩) trivial ?_
          refine wpAnyH_take (i := 2) (v := .int .i64 M) rfl (by kernel_rfl) (by kernel_rfl) (by kernel_rfl) (fun _ _ _ h => h) (Or.inl ⟨rfl, fun V hV => by go_simp⟩) trivial ?_
          refine wpAnyH_take (i := 4) (v := .pointer (some ⟨B, 0, none⟩)) rfl (by kernel_rfl) (by kernel_rfl) (by kernel_rfl) (fun _ _ _ h => h) (Or.inl ⟨rfl, fun V hV => by go_simp⟩) trivial ?_
          refine wpAnyH_ready (rs := [0, 3]) (by kernel_rfl) (by simp) (AllReadyH.cons rfl (fun K hK => ?_) (AllReadyH.cons rfl (fun K hK => ?_) AllReadyH.nil))
          case' refine_1 =>
            go_simp
            refine hK.out _ _ trivial (fun _ => ?_)
            clear hK K
            refine wpAnyH_ready (rs := [3]) (by kernel_rfl) (by simp) (AllReadyH.cons rfl (fun K hK => ?_) AllReadyH.nil)
            go_simp
            refine (l1NextF_any B N M _ _ (HS5.out.below ((Below.refl _ wr).drew)) (by omega) (by omega)).mono ?_
            rintro e w6 ⟨rfl, hs6, hk6⟩
            refine hK.out _ _ trivial (fun _ => ?_)
            clear hK K
            have z6 := hk6.size
            have c6 : w6.heap[L]? = some (.cells #[.slice a n ca, .slice p m cp] 33 (0, 0)) := (hk6.block L (Array.getElem?_eq_some_iff.1 c5).1 (by omega)).trans c5
            have HA6 : Hid (DAt _ (w.heap.size + 1) w6 a n ca p m cp vs D'.1 D'.2) := hA5.kept ((Kept.drew wr _).trans hk6) (fun g hg => by omega)
            have HS6 : Hid (SrcF w6 B N (s2.rest M)) := hs6
            have HK6 : Hid (Kept (fun g => g = B) w w6) := (HK5.out.trans (Kept.drew wr _)).trans hk6
            have HR6 : Hid (w6.heap[w.heap.size]? = some (.cells #[.slice none 0 0, .slice none 0 0] 33 (0, 0))) := (hk6.block _ (Array.getElem?_eq_some_iff.1 hr5.out).1 (by omega)).trans hr5.out
            clear hs6 hk6 hA5 d1 d2 d3 d4 HS5 HK5 hr5
            obtain ⟨d1, d2, d3, d4⟩ := two_cells c6
            refine wpAnyH_ready (rs := [5]) (by kernel_rfl) (by simp) (AllReadyH.cons rfl (fun K hK => ?_) AllReadyH.nil)
            go_simp
            refine (l1Fill_any B N (s2.rest M) _ HS6.out (by have := HK6.out.size; omega)).mono ?_
            rintro e w8 ⟨xa, xc, rfl, ho8, hs8, hk8⟩
            refine hK.out _ _ trivial (fun _ => ?_)
            clear hK K
            have c8 : w8.heap[L]? = some (.cells #[.slice a n ca, .slice p m cp] 33 (0, 0)) := (hk8.block L (Array.getElem?_eq_some_iff.1 c6).1 (by omega)).trans c6
            have HA8 : Hid (DAt _ (w.heap.size + 1) w8 a n ca p m cp vs D'.1 D'.2) := HA6.out.kept hk8 (fun g hg => by omega)
            have HS8 : Hid (SrcF w8 B N (s2.rest M).fillS) := hs8
            have HK8 : Hid (Kept (fun g => g = B) w w8) := HK6.out.trans hk8
            have HO8 : Hid (w8.ownsRow w6.heap.size 5 1 (.slice xa 64 xc) 64 (u8s (s2.rest M).fill)) := ho8
            have HR8 : Hid (w8.heap[w.heap.size]? = some (.cells #[.slice none 0 0, .slice none 0 0] 33 (0, 0))) := (hk8.block _ (Array.getElem?_eq_some_iff.1 HR6.out).1 (by omega)).trans HR6.out
            clear hs8 hk8 ho8 d1 d2 d3 d4 HA6 HS6 HK6 HR6
            obtain ⟨d1, d2, d3, d4⟩ := two_cells c8
          case' refine_2 =>
            go_simp
            refine (l1NextF_any B N M _ _ (HS5.out.below ((Below.refl _ wr).drew)) (by omega) (by omega)).mono ?_
            rintro e w6 ⟨rfl, hs6, hk6⟩
            refine hK.out _ _ trivial (fun _ => ?_)
            clear hK K
            have z6 := hk6.size
            have c6 : w6.heap[L]? = some (.cells #[.slice a n ca, .slice p m cp] 33 (0, 0)) := (hk6.block L (Array.getElem?_eq_some_iff.1 c5).1 (by omega)).trans c5
            have HA6 : Hid (DAt _ (w.heap.size + 1) w6 a n ca p m cp vs D'.1 D'.2) := hA5.kept ((Kept.drew wr _).trans hk6) (fun g hg => by omega)
            have HS6 : Hid (SrcF w6 B N (s2.rest M)) := hs6
            have HK6 : Hid (Kept (fun g => g = B) w w6) := (HK5.out.trans (Kept.drew wr _)).trans hk6
            have HR6 : Hid (w6.heap[w.heap.size]? = some (.cells #[.slice none 0 0, .slice none 0 0] 33 (0, 0))) := (hk6.block _ (Array.getElem?_eq_some_iff.1 hr5.out).1 (by omega)).trans hr5.out
            clear hs6 hk6 hA5 d1 d2 d3 d4 HS5 HK5 hr5
            obtain ⟨d1, d2, d3, d4⟩ := two_cells c6
            refine wpAnyH_ready (rs := [0, 5]) (by kernel_rfl) (by simp) (AllReadyH.cons rfl (fun K hK => ?_) (AllReadyH.cons rfl (fun K hK => ?_) AllReadyH.nil))
          case' refine_2.refine_1 =>
            go_simp
            refine hK.out _ _ trivial (fun _ => ?_)
            clear hK K
            refine wpAnyH_ready (rs := [5]) (by kernel_rfl) (by simp) (AllReadyH.cons rfl (fun K hK => ?_) AllReadyH.nil)
            go_simp
            refine (l1Fill_any B N (s2.rest M) _ HS6.out (by have := HK6.out.size; omega)).mono ?_
            rintro e w8 ⟨xa, xc, rfl, ho8, hs8, hk8⟩
            refine hK.out _ _ trivial (fun _ => ?_)
            clear hK K
            have c8 : w8.heap[L]? = some (.cells #[.slice a n ca, .slice p m cp] 33 (0, 0)) := (hk8.block L (Array.getElem?_eq_some_iff.1 c6).1 (by omega)).trans c6
            have HA8 : Hid (DAt _ (w.heap.size + 1) w8 a n ca p m cp vs D'.1 D'.2) := HA6.out.kept hk8 (fun g hg => by omega)
            have HS8 : Hid (SrcF w8 B N (s2.rest M).fillS) := hs8
            have HK8 : Hid (Kept (fun g => g = B) w w8) := HK6.out.trans hk8
            have HO8 : Hid (w8.ownsRow w6.heap.size 5 1 (.slice xa 64 xc) 64 (u8s (s2.rest M).fill)) := ho8
            have HR8 : Hid (w8.heap[w.heap.size]? = some (.cells #[.slice none 0 0, .slice none 0 0] 33 (0, 0))) := (hk8.block _ (Array.getElem?_eq_some_iff.1 HR6.out).1 (by omega)).trans HR6.out
            clear hs8 hk8 ho8 d1 d2 d3 d4 HA6 HS6 HK6 HR6
            obtain ⟨d1, d2, d3, d4⟩ := two_cells c8
          case' refine_2.refine_2 =>
            go_simp
            refine (l1Fill_any B N (s2.rest M) _ HS6.out (by have := HK6.out.size; omega)).mono ?_
            rintro e w8 ⟨xa, xc, rfl, ho8, hs8, hk8⟩
            refine hK.out _ _ trivial (fun _ => ?_)
            clear hK K
            have c8 : w8.heap[L]? = some (.cells #[.slice a n ca, .slice p m cp] 33 (0, 0)) := (hk8.block L (Array.getElem?_eq_some_iff.1 c6).1 (by omega)).trans c6
            have HA8 : Hid (DAt _ (w.heap.size + 1) w8 a n ca p m cp vs D'.1 D'.2) := HA6.out.kept hk8 (fun g hg => by omega)
            have HS8 : Hid (SrcF w8 B N (s2.rest M).fillS) := hs8
            have HK8 : Hid (Kept (fun g => g = B) w w8) := HK6.out.trans hk8
            have HO8 : Hid (w8.ownsRow w6.heap.size 5 1 (.slice xa 64 xc) 64 (u8s (s2.rest M).fill)) := ho8
            have HR8 : Hid (w8.heap[w.heap.size]? = some (.cells #[.slice none 0 0, .slice none 0 0] 33 (0, 0))) := (hk8.block _ (Array.getElem?_eq_some_iff.1 HR6.out).1 (by omega)).trans HR6.out
            clear hs8 hk8 ho8 d1 d2 d3 d4 HA6 HS6 HK6 HR6
            obtain ⟨d1, d2, d3, d4⟩ := two_cells c8
            refine wpAnyH_ready (rs := [0]) (by kernel_rfl) (by simp) (AllReadyH.cons rfl (fun K hK => ?_) AllReadyH.nil)
            go_simp
            refine hK.out _ _ trivial (fun _ => ?_)
            clear hK K
          all_goals
            refine wpAnyH_ready (rs := [6]) (by kernel_rfl) (by simp) (AllReadyH.cons rfl (fun K hK => ?_) AllReadyH.nil)
            go_simp
            refine (DAt.write HA8.out (b := s2.next M) (wf_i64 (by omega) (by omega)) HO8.out (by have := (Array.getElem?_eq_some_iff.1 c8).1; omega)).mono ?_
            rintro e w7 ⟨T7, vs7, a7, n7, ca7, p7, m7, cp7, rfl, hA7, hb7⟩
            refine hK.out _ _ trivial (fun _ => ?_)
            clear hK K
            have c7 := (hb7.block L (Array.getElem?_eq_some_iff.1 c8).1).trans c8
            have HD7 : Hid (DCell (w.heap.size + 1) L ((w7.setCell ⟨L, 0, none⟩ (.slice a7 n7 ca7)).setCell ⟨L, 1, none⟩ (.slice p7 m7 cp7)) (D'.write (s2.next M) (s2.rest M).fill)) := DCell.store sw c7 hA7
            have HS7 : Hid (SrcF ((w7.setCell ⟨L, 0, none⟩ (.slice a7 n7 ca7)).setCell ⟨L, 1, none⟩ (.slice p7 m7 cp7)) B N (s2.rest M).fillS) := (HS8.out.below hb7).store (by omega) (by omega) _ _
            have HK7 : Hid (Kept (fun g => g = B) w ((w7.setCell ⟨L, 0, none⟩ (.slice a7 n7 ca7)).setCell ⟨L, 1, none⟩ (.slice p7 m7 cp7))) := kept_store (HK8.out.trans (Kept.of_below hb7 _)) (by omega) _ _
            have HR7 : Hid (((w7.setCell ⟨L, 0, none⟩ (.slice a7 n7 ca7)).setCell ⟨L, 1, none⟩ (.slice p7 m7 cp7)).heap[w.heap.size]? = some (.cells #[.slice none 0 0, .slice none 0 0] 33 (0, 0))) := by
              have h1 := (hb7.block _ (Array.getElem?_eq_some_iff.1 HR8.out).1).trans HR8.out
              have : L ≠ w.heap.size := by omega
              show _ = _
              rw [← h1]
              simp [World.setCell, Array.getElem?_modify, this]
            obtain ⟨f1, f2, f3, f4⟩ := two_cells c7
            clear hA7 hb7 c8 d1 d2 d3 d4 HA8 HO8 HS8 HK8 HR8 c7 z6
            refine wpAnyH_ready (rs := [7]) (by kernel_rfl) (by simp) (AllReadyH.cons rfl (fun K hK => ?_) AllReadyH.nil)
            go_simp
            refine hK.out _ _ trivial (fun _ => ?_)
            refine wpAnyH_done (by kernel_rfl) ?_ _
            clear hK K
            go_wp2
            go_roundw
            case rel => exact ⟨k - 1, _, _, by omega, by first | go_num | (congr 1; omega), hg', HD7, HR7, HS7, HK7⟩
            case measure => simp [intOf]; omega
        · obtain rfl : k = 0 := by omega
          have hg' : Hid (s.good = (s2, D')) := hg
          clear hg
          obtain ⟨e1, e2, e3, e4⟩ := two_cells hr5.out
          have hfin : ∀ u1 u2, DAt (fun g => if g = w.heap.size then 0 else T g) w.heap.size ((wr.setCell ⟨w.heap.size, 0, none⟩ u1).setCell ⟨w.heap.size, 1, none⟩ u2) a n ca p m cp vs s.good.2.1 s.good.2.2 ∧ SrcF ((wr.setCell ⟨w.heap.size, 0, none⟩ u1).setCell ⟨w.heap.size, 1, none⟩ u2) B N s.good.1 ∧ Kept (fun g => g = B) w ((wr.setCell ⟨w.heap.size, 0, none⟩ u1).setCell ⟨w.heap.size, 1, none⟩ u2) := fun u1 u2 => by
            rw [hg'.out]
            exact ⟨(hA5.keptL hr5.out ((Kept.setCell wr ⟨w.heap.size, 0, none⟩ _ (fun g => g = w.heap.size) rfl).trans (Kept.setCell _ ⟨w.heap.size, 1, none⟩ _ (fun g => g = w.heap.size) rfl))).base (by omega), HS5.out.store hBl hN _ _, kept_store HK5.out (Nat.le_refl _) _ _⟩
          have HF := Hid.out hfin
          clear hfin hA5 hg' hr5 HS5 HK5
          go_wp2
          refine bodyPost_ret (v := .agg #[.slice a n ca, .slice p m cp]) (by simp [results, Try.results61, go_sem, e1, e2]) rfl ?_
          exact ⟨_, vs, a, n, ca, p, m, cp, rfl, HF _ _⟩
end Go.Proofs.Ytkkammbfomiofaa
