/-
  Draws as functions: DrawDiskWrite.
-/
import Derived.Test.YtkkammbfomiofaaDdk
import Derived.Test.YtkkammbfomiofaaRdk
namespace Go.Proofs.Ytkkammbfomiofaa
open Go.RowKit
set_option linter.unusedSimpArgs false
set_option linter.unusedVariables false

/-- The disk, the block and the data that DrawDiskWrite draws. -/
def bentW (k nb : Int) (b : Int) : Int := if k = 1 then nb else if k = 2 then -1 else b
def bentX (k : Int) (X : List Int) : List Int := if k = 0 then X.drop 1 else X
def SV.drawB (s : SV) (nb : Int) : Int × List Int := (bentW ((s.rest nb).fillS.next 16) nb (s.next nb), bentX ((s.rest nb).fillS.next 16) (s.rest nb).fill)
def drawW (xs : List Int) : DV × (Int × List Int) := ((srcV xs).disk.2, (srcV xs).disk.1.drawB (((srcV xs).disk.2.1.length : Int) / 64))

theorem DAt.od {T : Nat → Nat} {B lo : Nat} {w : World} {a : Option Addr} {n ca : Nat} {p : Option Addr} {m cp : Nat} {vs : List WV} {xs : List Int} {val : List (Int × List Int)} (h : DAt T B w a n ca p m cp vs xs val) (hl : lo ≤ B) : OD lo w a n ca p m xs val :=
  ⟨T, vs, h.own.wide hl (Nat.le_refl _) (Nat.le_refl _), h.val, h.cap⟩
theorem row_one {G : Nat → Prop} {w : World} {g : Nat} {xs : List Int} (h : Row .u8 G w (some ⟨g, 0, none⟩) 64 xs) : Row .u8 G w (some ⟨g, 1, none⟩) 63 (xs.drop 1) := by
  obtain ⟨h1, h2⟩ := h
  rcases h2 with h2 | ⟨g', off', e, hg, hc⟩
  · omega
  · injection e with e
    injection e with e1 e2
    subst e1; subst e2
    refine ⟨by simp [h1], .inr ⟨g, 1, rfl, hg, fun i hi => ?_⟩⟩
    have := hc (1 + i) (by omega)
    rw [Nat.zero_add] at this
    rw [List.getElem?_drop]
    exact this
theorem owns_cap {w : World} {B e sz n : Nat} {a : Option Addr} {c : Nat} {vs : List Value} (h : w.ownsRow B e sz (.slice a n c) n vs) : c ≤ 9223372036854775807 := by
  rcases h.2 with ⟨e1, h0⟩ | ⟨g, cap, cur, e1, hB, hh, hcap, hm, hcs, htk⟩
  · injection e1 with e1 e2 e3
    omega
  · injection e1 with e1 e2 e3
    unfold maxLen at hm
    omega
/-- At the return. -/
theorem drawW_end {w W : World} {K L g dc : Nat} {D : DV} {X : List Int} (hD : DCell K L W D) (hK : w.heap.size < K) (hb : Below w.heap.size w W) (hX : W.ownsRow K 5 1 (.slice (some ⟨g, 0, none⟩) 64 dc) 64 (u8s X)) {a : Option Addr} {n ca : Nat} {p : Option Addr} {m cp : Nat} (h0 : W.cell? ⟨L, 0, none⟩ = some (.slice a n ca)) (h1 : W.cell? ⟨L, 1, none⟩ = some (.slice p m cp)) (u1 u2 : Value) :
    OD w.heap.size ((W.setCell ⟨w.heap.size, 0, none⟩ u1).setCell ⟨w.heap.size, 1, none⟩ u2) a n ca p m D.1 D.2 ∧ Row .u8 (fun g => w.heap.size ≤ g) ((W.setCell ⟨w.heap.size, 0, none⟩ u1).setCell ⟨w.heap.size, 1, none⟩ u2) (some ⟨g, 0, none⟩) 64 X ∧ Below w.heap.size w ((W.setCell ⟨w.heap.size, 0, none⟩ u1).setCell ⟨w.heap.size, 1, none⟩ u2) := by
  have kk : Kept (fun g => g = w.heap.size) W ((W.setCell ⟨w.heap.size, 0, none⟩ u1).setCell ⟨w.heap.size, 1, none⟩ u2) := (Kept.setCell W ⟨w.heap.size, 0, none⟩ _ (fun g => g = w.heap.size) rfl).trans (Kept.setCell _ ⟨w.heap.size, 1, none⟩ _ (fun g => g = w.heap.size) rfl)
  obtain ⟨_, T, vs, a', n', ca', p', m', cp', hc, hA⟩ := hD
  obtain ⟨q1, q2, _, _⟩ := two_cells hc
  obtain ⟨rfl, rfl, rfl⟩ : a = a' ∧ n = n' ∧ ca = ca' := by have := h0.symm.trans q1; simpa using this
  obtain ⟨rfl, rfl, rfl⟩ : p = p' ∧ m = m' ∧ cp = cp' := by have := h1.symm.trans q2; simpa using this
  obtain ⟨a9, c9, e9, r9⟩ := owns_row hX
  injection e9 with e9 _ _
  subst e9
  exact ⟨(hA.kept kk (fun g hg => by omega)).od (by omega), (r9.kept kk (fun g hg => by omega)).mono (fun g hg => by omega), (hb.setCell (Nat.le_refl _) _).setCell (Nat.le_refl _) _⟩
/-- The source, the disk's variable, the answer's and what is kept, in one. -/
structure Wst (w : World) (B K L : Nat) (W : World) (s : SV) (D : DV) (a : Option Addr) (n ca : Nat) (p : Option Addr) (m cp : Nat) : Prop where
  src : SrcF W B K s
  bel : Below w.heap.size w W
  dsk : DCell K L W D
  res : W.heap[w.heap.size]? = some (.cells #[.slice none 0 0, .slice none 0 0] 33 (0, 0))
  var : W.heap[L]? = some (.cells #[.slice a n ca, .slice p m cp] 33 (0, 0))
  hB : w.heap.size + 1 = B
  hK : B < K
section
variable {w : World} {B K L : Nat} {W W' : World} {s s' : SV} {D : DV} {a : Option Addr} {n ca : Nat} {p : Option Addr} {m cp : Nat}
theorem Wst.next (h : Wst w B K L W s D a n ca p m cp) (hk : Kept (fun g => g = B) W W') (hs : SrcF W' B K s') : Wst w B K L W' s' D a n ca p m cp := by
  have h1 := h.hB
  have h2 := h.hK
  have h3 := h.dsk.1
  have h4 := h.bel.size
  exact ⟨hs, h.bel.trans (hk.below h4 (fun j hj => by omega)), h.dsk.kept hk (fun g hg => by omega), (hk.block _ (Array.getElem?_eq_some_iff.1 h.res).1 (by omega)).trans h.res, (hk.block _ (Array.getElem?_eq_some_iff.1 h.var).1 (by omega)).trans h.var, h1, h2⟩
theorem Wst.below (h : Wst w B K L W s D a n ca p m cp) (hb : Below W.heap.size W W') : Wst w B K L W' s D a n ca p m cp :=
  h.next (Kept.of_below hb _) (h.src.below hb)
theorem Wst.le (h : Wst w B K L W s D a n ca p m cp) : K ≤ W.heap.size := by
  have h3 := h.dsk.1
  have := h.dsk.lt
  omega
theorem Wst.facts (h : Wst w B K L W s D a n ca p m cp) : (W.cell? ⟨L, 0, none⟩ = some (.slice a n ca) ∧ W.cell? ⟨L, 1, none⟩ = some (.slice p m cp)) ∧ (W.cell? ⟨w.heap.size, 0, none⟩ = some (.slice none 0 0) ∧ W.cell? ⟨w.heap.size, 1, none⟩ = some (.slice none 0 0) ∧ W.frozen? ⟨w.heap.size, 0, none⟩ = false ∧ W.frozen? ⟨w.heap.size, 1, none⟩ = false) := by
  obtain ⟨q1, q2, _, _⟩ := two_cells h.var
  exact ⟨⟨q1, q2⟩, two_cells h.res⟩
end
set_option maxHeartbeats 4000000 in
set_option maxRecDepth 100000 in
theorem drawDiskWrite_any (a : Option Addr) (n ca : Nat) (xs : List Int) (w : World) (ha : IRow .u8 w a n xs) (hx : ∀ i, i < n → 0 ≤ xs[i]?.getD 0 ∧ xs[i]?.getD 0 ≤ 255) (hn : n ≤ 2097152) :
    Calls Try.prog 10 #[.slice a n ca] w fun e w' => ∃ a' n' ca' p' m' cp' da dl dc, e = .returned (.tuple #[.agg #[.slice a' n' ca', .slice p' m' cp'], .int .i64 (drawW xs).2.1, .slice da dl dc]) ∧ OD w.heap.size w' a' n' ca' p' m' (drawW xs).1.1 (drawW xs).1.2 ∧ Row .u8 (fun g => w.heap.size ≤ g) w' da dl (drawW xs).2.2 ∧ Below w.heap.size w w' := by
  obtain ⟨wA, hwA⟩ : ∃ wA, w.alloc (Obj.cells #[.slice none 0 0, .slice none 0 0] 33) = wA := ⟨_, rfl⟩
  have bA : Below w.heap.size w wA := by rw [← hwA]; exact (Below.refl _ w).alloc (Nat.le_refl _) _
  have cA : wA.heap[w.heap.size]? = some (.cells #[.slice none 0 0, .slice none 0 0] 33 (0, 0)) := by rw [← hwA]; exact heap_alloc_new w _
  have sA : wA.heap.size = w.heap.size + 1 := by rw [← hwA]; simp
  have HWA : Hid (w.alloc (Obj.cells #[.slice none 0 0, .slice none 0 0] 33) = wA) := hwA
  have HSA : Hid (wA.heap.size = w.heap.size + 1) := sA
  clear hwA sA
  go_enter Try.func10, Try.ntmps10
  go_wp2_with fail
  rw [HWA.out]
  refine (l1SourceF_any a n ca xs _ (ha.below bA) hx hn).mono ?_
  rintro e w1 ⟨rfl, hs1, hb1⟩
  have HB1 : Hid (Below w.heap.size w w1) := bA.trans (hb1.mono (by have := HSA.out; omega))
  have c1 := (hb1.block _ (by have := HSA.out; omega)).trans cA
  have lB : wA.heap.size < w1.heap.size := hs1.lt
  clear ha hx bA cA hb1
  go_wp2_with fail
  refine (l1DrawDisk_any _ _ _ _ hs1 (Nat.le_refl _)).mono ?_
  rintro e w2 ⟨T, vs, a2, n2, ca2, p2, m2, cp2, rfl, hA2, hs2, hk2⟩
  obtain ⟨B, hB⟩ : ∃ B, wA.heap.size = B := ⟨_, rfl⟩
  rw [hB] at hs2 hk2 lB HSA ⊢
  have sw : w1.heap.size ≤ w2.heap.size := hk2.size
  have hb2 : Below w.heap.size w w2 := HB1.out.trans (hk2.below (by have := HB1.out.size; omega) (fun j hj => by have := HSA.out; omega))
  have c2 := (hk2.block _ (by have := HSA.out; omega) (by have := HSA.out; omega)).trans c1
  obtain ⟨wD, hwD⟩ : ∃ wD, w2.alloc (.cells #[.slice a2 n2 ca2, .slice p2 m2 cp2] 33) = wD := ⟨_, rfl⟩
  have bD : Below w2.heap.size w2 wD := by rw [← hwD]; exact (Below.refl _ w2).alloc (Nat.le_refl _) _
  have hD3 : DCell w1.heap.size w2.heap.size wD (srcV xs).disk.2 := by rw [← hwD]; exact DCell.new sw hA2
  have cD : wD.heap[w2.heap.size]? = some (.cells #[.slice a2 n2 ca2, .slice p2 m2 cp2] 33 (0, 0)) := by rw [← hwD]; exact heap_alloc_new w2 _
  have hst : Wst w B w1.heap.size w2.heap.size wD (srcV xs).disk.1 (srcV xs).disk.2 a2 n2 ca2 p2 m2 cp2 := ⟨hs2.below bD, hb2.trans (bD.mono (by have := hb2.size; omega)), hD3, (bD.block _ (Array.getElem?_eq_some_iff.1 c2).1).trans c2, cD, HSA.out.symm, lB⟩
  have hnl : n2 = (srcV xs).disk.2.1.length := hA2.xlen.symm
  have hn2 : n2 ≤ 2097152 := hA2.dn
  have HE : Hid (drawW xs = ((srcV xs).disk.2, (srcV xs).disk.1.drawB ((n2 : Int) / 64))) := by show _ = _; rw [hnl]; rfl
  obtain ⟨L, hL⟩ : ∃ L, w2.heap.size = L := ⟨_, rfl⟩
  obtain ⟨K, hK⟩ : ∃ K, w1.heap.size = K := ⟨_, rfl⟩
  have HWD : Hid (w2.alloc (.cells #[.slice a2 n2 ca2, .slice p2 m2 cp2] 33) = wD) := hwD
  have HL : Hid (w2.heap.size = L) := hL
  rw [hL, hK] at hst
  generalize (srcV xs).disk = q at *
  obtain ⟨s1, D⟩ := q
  simp only at hst HE
  have HST : Hid (Wst w B K L wD s1 D a2 n2 ca2 p2 m2 cp2) := hst
  clear hs2 hk2 hs1 hA2 c1 c2 bD hb2 HB1 hnl T vs hwD hL hK hB hst HWA HSA hD3 cD lB sw
  go_wp2_with fail
  rw [HWD.out, HL.out]
  refine (l1Blocks_any a2 p2 n2 ca2 m2 cp2 _ hn2).mono ?_
  rintro e w3 ⟨rfl, hb3⟩
  have HT3 : Hid (Wst w B K L w3 s1 D a2 n2 ca2 p2 m2 cp2) := HST.out.below hb3
  clear HST hb3
  go_wp2_with fail
  refine (l1NextF_any B K ((n2 : Int) / 64) s1 _ HT3.out.src (by omega) (by omega)).mono ?_
  rintro e w4 ⟨rfl, hs4, hk4⟩
  have HT4 : Hid (Wst w B K L w4 (s1.rest ((n2 : Int) / 64)) D a2 n2 ca2 p2 m2 cp2) := HT3.out.next hk4 hs4
  clear hs4 hk4 HT3
  go_wp2_with fail
  refine (l1Fill_any B K _ _ HT4.out.src HT4.out.le).mono ?_
  rintro e w5 ⟨xa, xc, rfl, ho5, hs5, hk5⟩
  have HT5 := Hid.out (HT4.out.next hk5 hs5)
  have ho5' := rows_base ho5 HT4.out.le
  obtain ⟨g, rfl, hcap, _⟩ := owns_range ho5 0 0 (by omega)
  have HNB : Hid (∀ g', (Value.slice (some ⟨g, 0, none⟩) 64 xc).ownBlock = some g' → ¬ g' = B) := fun g' hg' e => by
    have h1 := (ho5'.lt g' hg').1
    have h2 := HT4.out.hK
    omega
  have HO5 : Hid (w5.ownsRow K 5 1 (.slice (some ⟨g, 0, none⟩) 64 xc) 64 (u8s (s1.rest ((n2 : Int) / 64)).fill)) := ho5'
  have hxc : xc ≤ 9223372036854775807 := owns_cap ho5'
  clear ho5 ho5' hs5 hk5 HT4
  go_wp2_with fail
  refine (l1NextF_any B K 16 _ _ HT5.src (by omega) (by omega)).mono ?_
  rintro e w6 ⟨rfl, hs6, hk6⟩
  have hst := HT5.next hk6 hs6
  have ho6 : w6.ownsRow K 5 1 (.slice (some ⟨g, 0, none⟩) 64 xc) 64 (u8s (s1.rest ((n2 : Int) / 64)).fill) := row_kept HO5.out hk6 HNB.out
  obtain ⟨⟨d1, d2⟩, ⟨r1, r2, r3, r4⟩⟩ := hst.facts
  have HF : Hid (∀ W, Below w6.heap.size w6 W → ∀ u1 u2, OD w.heap.size ((W.setCell ⟨w.heap.size, 0, none⟩ u1).setCell ⟨w.heap.size, 1, none⟩ u2) a2 n2 ca2 p2 m2 D.1 D.2 ∧ Row .u8 (fun g => w.heap.size ≤ g) ((W.setCell ⟨w.heap.size, 0, none⟩ u1).setCell ⟨w.heap.size, 1, none⟩ u2) (some ⟨g, 0, none⟩) 64 (s1.rest ((n2 : Int) / 64)).fill ∧ Below w.heap.size w ((W.setCell ⟨w.heap.size, 0, none⟩ u1).setCell ⟨w.heap.size, 1, none⟩ u2)) := fun W hW u1 u2 => by
    have h1 := hst.hB
    have h2 := hst.hK
    have hst' := hst.below hW
    exact drawW_end hst'.dsk (by omega) hst'.bel (row_kept ho6 (Kept.of_below hW (fun _ => False)) (fun _ _ h => h)) hst'.facts.1.1 hst'.facts.1.2 u1 u2
  have HTS : Hid (Wst w B K L w6 _ D a2 n2 ca2 p2 m2 cp2) := hst
  have hLs : L < w6.heap.size := hst.dsk.lt
  have hRs : w.heap.size < w6.heap.size := (Array.getElem?_eq_some_iff.1 hst.res).1
  obtain ⟨k0, k1⟩ := SV.next_range (s := (s1.rest ((n2 : Int) / 64)).fillS) (m := 16) (by omega)
  obtain ⟨k, hk⟩ : ∃ k, (s1.rest ((n2 : Int) / 64)).fillS.next 16 = k := ⟨_, rfl⟩
  rw [hk] at k0 k1 ⊢
  have HE2 : Hid (drawW xs = (D, (bentW k ((n2 : Int) / 64) (s1.next ((n2 : Int) / 64)), bentX k (s1.rest ((n2 : Int) / 64)).fill))) := by show _ = _; rw [HE.out]; simp only [SV.drawB, hk]
  clear hst ho6 hs6 hk6 HT5 HNB HO5 HE hk
  by_cases e0 : k = 0
  · subst e0
    go_wp2
    have hF := HF.out _ (Below.refl _ _) (.slice a2 n2 ca2) (.slice p2 m2 cp2)
    refine bodyPost_ret (v := .tuple #[.agg #[.slice a2 n2 ca2, .slice p2 m2 cp2], .int .i64 (s1.next ((n2 : Int) / 64)), .slice (some ⟨g, 1, none⟩) 63 (xc - 1)]) (by simp [results, Try.results10, go_sem, r1, r2]) rfl ?_
    refine ⟨a2, n2, ca2, p2, m2, cp2, some ⟨g, 1, none⟩, 63, xc - 1, ?_, ?_, ?_, hF.2.2⟩
    · rw [HE2.out]; rfl
    · rw [HE2.out]; exact hF.1
    · rw [HE2.out]; exact row_one hF.2.1
  by_cases e1 : k = 1
  · subst e1
    go_wp2_with fail
    refine (l1Blocks_any a2 p2 n2 ca2 m2 cp2 _ hn2).mono ?_
    rintro e w7 ⟨rfl, hb7⟩
    obtain ⟨⟨d1', d2'⟩, ⟨r1', r2', r3', r4'⟩⟩ := (HTS.out.below hb7).facts
    have HB7 : Hid (Below w6.heap.size w6 w7) := hb7
    have z7 := hb7.size
    clear hb7 d1 d2 r1 r2 r3 r4
    go_wp2
    have hF := HF.out _ HB7.out (.slice a2 n2 ca2) (.slice p2 m2 cp2)
    refine bodyPost_ret (v := .tuple #[.agg #[.slice a2 n2 ca2, .slice p2 m2 cp2], .int .i64 ((n2 : Int) / 64), .slice (some ⟨g, 0, none⟩) 64 xc]) (by simp [results, Try.results10, go_sem, r1', r2']) rfl ?_
    refine ⟨a2, n2, ca2, p2, m2, cp2, some ⟨g, 0, none⟩, 64, xc, ?_, ?_, ?_, hF.2.2⟩
    · rw [HE2.out]; rfl
    · rw [HE2.out]; exact hF.1
    · rw [HE2.out]; exact hF.2.1
  by_cases e2 : k = 2
  · subst e2
    go_wp2
    have hF := HF.out _ (Below.refl _ _) (.slice a2 n2 ca2) (.slice p2 m2 cp2)
    refine bodyPost_ret (v := .tuple #[.agg #[.slice a2 n2 ca2, .slice p2 m2 cp2], .int .i64 (-1), .slice (some ⟨g, 0, none⟩) 64 xc]) (by simp [results, Try.results10, go_sem, r1, r2]) rfl ?_
    refine ⟨a2, n2, ca2, p2, m2, cp2, some ⟨g, 0, none⟩, 64, xc, ?_, ?_, ?_, hF.2.2⟩
    · rw [HE2.out]; rfl
    · rw [HE2.out]; exact hF.1
    · rw [HE2.out]; exact hF.2.1
  · have HE3 : Hid (drawW xs = (D, (s1.next ((n2 : Int) / 64), (s1.rest ((n2 : Int) / 64)).fill))) := by show _ = _; rw [HE2.out]; simp only [bentW, bentX, if_neg e0, if_neg e1, if_neg e2]
    go_wp2
    have hF := HF.out _ (Below.refl _ _) (.slice a2 n2 ca2) (.slice p2 m2 cp2)
    refine bodyPost_ret (v := .tuple #[.agg #[.slice a2 n2 ca2, .slice p2 m2 cp2], .int .i64 (s1.next ((n2 : Int) / 64)), .slice (some ⟨g, 0, none⟩) 64 xc]) (by simp [results, Try.results10, go_sem, r1, r2]) rfl ?_
    refine ⟨a2, n2, ca2, p2, m2, cp2, some ⟨g, 0, none⟩, 64, xc, ?_, ?_, ?_, hF.2.2⟩
    · rw [HE3.out]
    · rw [HE3.out]; exact hF.1
    · rw [HE3.out]; exact hF.2.1

theorem fill_byt (s : SV) : BytD s.fill := by
  intro x hx
  obtain ⟨a0, a1⟩ := SV.next_range (s := s) (m := 255) (by omega)
  obtain ⟨b0, b1⟩ := SV.next_range (s := (s.rest 255).rest 64) (m := 256) (by omega)
  rcases List.mem_or_eq_of_mem_set hx with h | h
  · rw [List.eq_of_mem_replicate h]; omega
  · rw [h]; omega
theorem drawW_byt (xs : List Int) : BytD (drawW xs).2.2 := by
  intro x hx
  simp only [drawW, SV.drawB, bentX] at hx
  split at hx
  · exact fill_byt _ x (List.mem_of_mem_drop hx)
  · exact fill_byt _ x hx
theorem drawW_b (xs : List Int) (h : (drawW xs).1.1.length ≤ 2097152) : -1 ≤ (drawW xs).2.1 ∧ (drawW xs).2.1 ≤ 32768 := by
  simp only [drawW, SV.drawB, bentW] at h ⊢
  generalize (srcV xs).disk = q at *
  split
  · omega
  · split
    · omega
    · by_cases h1 : (1 : Int) ≤ (q.2.1.length : Int) / 64
      · have := SV.next_range (s := q.1) h1
        omega
      · have e : q.1.next ((q.2.1.length : Int) / 64) = 0 := by unfold SV.next; rw [if_pos (by omega)]
        omega
theorem drawW_len (xs : List Int) : (drawW xs).2.2.length ≤ 64 := by
  simp only [drawW, SV.drawB, bentX]
  split
  · simp [SV.fill_len]
  · rw [SV.fill_len]; exact Nat.le_refl _
end Go.Proofs.Ytkkammbfomiofaa
