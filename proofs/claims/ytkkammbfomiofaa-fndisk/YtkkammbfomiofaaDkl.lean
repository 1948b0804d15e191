/-
  FnDisk: the law's walk.
-/
import Derived.Test.YtkkammbfomiofaaDkb
import Derived.Test.YtkkammbfomiofaaLwc
import Derived.Deep.CutRange
import Derived.Deep.RegionHeld
import Derived.Deep.QuietTactic
import Derived.BigQuiet
namespace Go.Proofs.Ytkkammbfomiofaa
open Go.RowKit
set_option linter.unusedSimpArgs false
set_option linter.unusedVariables false

theorem dwX_len {n : Nat} {xs : List Int} {val : List (Int × List Int)} {b : Int} {l : Nat} (hx : xs.length = n) (h : dwB n val b l = true) : (dwX n xs val b l).length = n ∧ 64 ≤ n := by
  obtain ⟨h1, _⟩ := dwB_parts h
  obtain ⟨g1, g2, _⟩ := (validB_iff n val).1 h1
  unfold dwX; rw [if_pos h]; omega
theorem IRow.belowW {k : IntKind} {w w' : World} {a : Option Addr} {n : Nat} {xs : List Int} (h : IRow k w a n xs) (hb : Below w.heap.size w w') : IRow k w' a n xs := h.below hb
/-- What is known while the law goes on. -/
structure Ks (w W : World) (L1 L3 : Nat) (d1 : Option Addr) (n1 c1 : Nat) (p1 : Option Addr) (m1 k1 : Nat) (D : DV) (d3 : Option Addr) (n3 c3 : Nat) (p3 : Option Addr) (m3 k3 : Nat) (E : DV) (da : Option Addr) (dl : Nat) (X : List Int) (ma : Option Addr) (ml : Nat) (ys : List Int) : Prop where
  bel : Below w.heap.size w W
  v1 : W.heap[L1]? = some (.cells #[.slice d1 n1 c1, .slice p1 m1 k1] 33 (0, 0))
  v3 : W.heap[L3]? = some (.cells #[.slice d3 n3 c3, .slice p3 m3 k3] 33 (0, 0))
  r1 : RD W d1 n1 c1 p1 m1 D.1 D.2
  r3 : RD W d3 n3 c3 p3 m3 E.1 E.2
  x : IRow .u8 W da dl X
  y : IRow .u8 W ma ml ys
theorem Ks.below {w W W' : World} {L1 L3 : Nat} {d1 : Option Addr} {n1 c1 : Nat} {p1 : Option Addr} {m1 k1 : Nat} {D : DV} {d3 : Option Addr} {n3 c3 : Nat} {p3 : Option Addr} {m3 k3 : Nat} {E : DV} {da : Option Addr} {dl : Nat} {X : List Int} {ma : Option Addr} {ml : Nat} {ys : List Int} (h : Ks w W L1 L3 d1 n1 c1 p1 m1 k1 D d3 n3 c3 p3 m3 k3 E da dl X ma ml ys) (hb : Below W.heap.size W W') : Ks w W' L1 L3 d1 n1 c1 p1 m1 k1 D d3 n3 c3 p3 m3 k3 E da dl X ma ml ys :=
  ⟨h.bel.trans (hb.mono h.bel.size), (hb.block _ (Array.getElem?_eq_some_iff.1 h.v1).1).trans h.v1, (hb.block _ (Array.getElem?_eq_some_iff.1 h.v3).1).trans h.v3, h.r1.below hb, h.r3.below hb, h.x.below hb, h.y.below hb⟩
theorem Ks.facts {w W : World} {L1 L3 : Nat} {d1 : Option Addr} {n1 c1 : Nat} {p1 : Option Addr} {m1 k1 : Nat} {D : DV} {d3 : Option Addr} {n3 c3 : Nat} {p3 : Option Addr} {m3 k3 : Nat} {E : DV} {da : Option Addr} {dl : Nat} {X : List Int} {ma : Option Addr} {ml : Nat} {ys : List Int} (h : Ks w W L1 L3 d1 n1 c1 p1 m1 k1 D d3 n3 c3 p3 m3 k3 E da dl X ma ml ys) : (W.cell? ⟨L1, 0, none⟩ = some (.slice d1 n1 c1) ∧ W.cell? ⟨L1, 1, none⟩ = some (.slice p1 m1 k1)) ∧ (W.cell? ⟨L3, 0, none⟩ = some (.slice d3 n3 c3) ∧ W.cell? ⟨L3, 1, none⟩ = some (.slice p3 m3 k3)) ∧ L1 < W.heap.size ∧ L3 < W.heap.size := by
  obtain ⟨q1, q2, _, _⟩ := two_cells h.v1
  obtain ⟨q3, q4, _, _⟩ := two_cells h.v3
  exact ⟨⟨q1, q2⟩, ⟨q3, q4⟩, (Array.getElem?_eq_some_iff.1 h.v1).1, (Array.getElem?_eq_some_iff.1 h.v3).1⟩
theorem new_cells {W : World} {o : Obj} : (W.alloc o).heap[W.heap.size]? = some o := heap_alloc_new W o

set_option maxHeartbeats 8000000 in
set_option maxRecDepth 100000 in
theorem law_disk (a : Option Addr) (n ca : Nat) (xs : List Int) (a' : Option Addr) (n' ca' : Nat) (ys : List Int) (w : World) (ha : IRow .u8 w a n xs) (hn : (n : Int) ≤ 9223372036854775807) (hx : BytD xs) (hb : IRow .u8 w a' n' ys) (hn' : (n' : Int) ≤ 9223372036854775807) (hy : BytD ys) :
    Calls Try.prog 4 #[.slice a n ca, .slice a' n' ca'] w fun e w' => e = .returned (.bool true) ∧ Below w.heap.size w w' := by
  by_cases hbig : 1048576 < n
  · go_enter Try.func4, Try.ntmps4
    go_wp2
    go_ret
    exact ⟨rfl, Below.refl _ _⟩
  by_cases hbig' : 1048576 < n'
  · go_enter Try.func4, Try.ntmps4
    go_wp2
    go_ret
    exact ⟨rfl, Below.refl _ _⟩
  have HA : Hid (IRow .u8 w a n xs) := ha
  have HB : Hid (IRow .u8 w a' n' ys) := hb
  have HX : Hid (∀ i, i < n → 0 ≤ xs[i]?.getD 0 ∧ xs[i]?.getD 0 ≤ 255) := fun i hi => hx.at i (by rw [ha.1]; exact hi)
  have HY : Hid (∀ i, i < n' → 0 ≤ ys[i]?.getD 0 ∧ ys[i]?.getD 0 ≤ 255) := fun i hi => hy.at i (by rw [hb.1]; exact hi)
  clear ha hb hx hy
  go_enter Try.func4, Try.ntmps4
  go_wp2_with fail
  refine (drawDiskWrite_any a n ca xs _ HA.out HX.out (by omega)).mono ?_
  rintro e w1 ⟨a1, n1, ca1, p1, m1, cp1, da1, dl1, dc1, rfl, hD1, hX1, hb1⟩
  have hBX := drawW_byt xs
  have hbb := drawW_b xs (by rw [hD1.rd.xlen]; exact hD1.rd.dn)
  have hll := drawW_len xs
  have hdb := drawW_dbyt xs
  obtain ⟨D, b, X, hq⟩ : ∃ D b X, drawW xs = (D, b, X) := ⟨_, _, _, rfl⟩
  rw [hq] at hBX hbb hll hdb hD1 hX1 ⊢
  have HQ : Hid (drawW xs = (D, b, X)) := hq
  clear hq
  simp only at hBX hbb hll hdb hD1 hX1 ⊢
  have HBD : Hid (BytD D.1) := hdb
  clear hdb
  obtain ⟨hb0, hb9⟩ := hbb
  have hwf : (Lit.int .i64 b).wf = true := wf_i64 (by omega) (by omega)
  have bo : Below w1.heap.size w1 (w1.alloc (Obj.cells #[.slice a1 n1 ca1, .slice p1 m1 cp1] 33)) := (Below.refl _ _).alloc (Nat.le_refl _) _
  have q1 := cnv_str dc1 (hX1.read.below bo) hBX
  obtain ⟨c2, W2, q2, r2, b2, l2, m2, s2⟩ := cnv_new (w1.alloc (Obj.cells #[.slice a1 n1 ca1, .slice p1 m1 cp1] 33)) X dl1 hBX hX1.1 (by have := hX1.1; omega)
  have HD2 : Hid (RD W2 a1 n1 ca1 p1 m1 D.1 D.2) := (hD1.rd.below bo).below b2
  have HX2 : Hid (IRow .u8 W2 (some ⟨w1.heap.size + 1, 0, none⟩) dl1 X) := by
    have r3 := r2
    have e3 : (w1.alloc (Obj.cells #[.slice a1 n1 ca1, .slice p1 m1 cp1] 33)).heap.size = w1.heap.size + 1 := by simp
    rw [e3] at r3
    exact r3
  have HB2 : Hid (Below w.heap.size w W2) := (hb1.trans (bo.mono hb1.size)).trans (b2.mono (by have := hb1.size; simp; omega))
  have HC2 : Hid (W2.heap[w1.heap.size]? = some (.cells #[.slice a1 n1 ca1, .slice p1 m1 cp1] 33 (0, 0))) := (b2.block _ (by simp)).trans (heap_alloc_new w1 _)
  have hdl : dl1 ≤ 64 := by rw [← hX1.1]; exact hll
  have HXL : Hid (X.length = dl1) := hX1.1
  have HN1 : Hid (D.1.length = n1) := hD1.rd.xlen
  have HBX : Hid (BytD X) := hBX
  have HW1 : Hid (w.heap.size ≤ w1.heap.size) := hb1.size
  clear hX1 hD1 bo r2 b2 s2 hb1 hll hBX
  go_wp2_with fail
  refine (write_rd HD2.out cp1 b HX2.out (by omega) hwf).mono ?_
  rintro e w3 ⟨a3, n3, ca3, p3, m3, cp3, rfl, hD3, hb3⟩
  obtain ⟨L1, hL1⟩ : ∃ L1, w1.heap.size = L1 := ⟨_, rfl⟩
  have HL1 : Hid (w1.heap.size = L1) := hL1
  rw [hL1]
  have HB3 : Hid (Below w.heap.size w w3) := HB2.out.trans (hb3.mono HB2.out.size)
  have hC3 : w3.heap[L1]? = some (.cells #[.slice a1 n1 ca1, .slice p1 m1 cp1] 33 (0, 0)) := by rw [← hL1]; exact (hb3.block _ (Array.getElem?_eq_some_iff.1 HC2.out).1).trans HC2.out
  have hLw : w.heap.size ≤ L1 := by rw [← hL1]; exact HW1.out
  have hL2 : L1 < W2.heap.size := by rw [← hL1]; exact (Array.getElem?_eq_some_iff.1 HC2.out).1
  have hL31 : Hid (L1 < w3.heap.size) := (Array.getElem?_eq_some_iff.1 hC3).1
  clear hb3 hL1 q1 q2 HD2 HX2 HC2 HB2 HW1
  -- the second draw
  have bo : Below w3.heap.size w3 (w3.alloc (Obj.cells #[.slice a3 n3 ca3, .slice p3 m3 cp3] 33)) := (Below.refl _ _).alloc (Nat.le_refl _) _
  have HB4 : Hid (Below w.heap.size w (w3.alloc (Obj.cells #[.slice a3 n3 ca3, .slice p3 m3 cp3] 33))) := HB3.out.trans (bo.mono HB3.out.size)
  have HD4 : Hid (OD W2.heap.size (w3.alloc (Obj.cells #[.slice a3 n3 ca3, .slice p3 m3 cp3] 33)) a3 n3 ca3 p3 m3 (dwX n1 D.1 D.2 b dl1) (dwW n1 D.2 b dl1 X)) := hD3.kept (Kept.of_below bo (fun _ => False)) (fun _ _ h => h)
  have hC4 := (bo.block _ (Array.getElem?_eq_some_iff.1 hC3).1).trans hC3
  have hC4' := heap_alloc_new w3 (Obj.cells #[.slice a3 n3 ca3, .slice p3 m3 cp3] 33)
  obtain ⟨W4, hW4⟩ : ∃ W4, w3.alloc (Obj.cells #[.slice a3 n3 ca3, .slice p3 m3 cp3] 33) = W4 := ⟨_, rfl⟩
  have HW4 : Hid (w3.alloc (Obj.cells #[.slice a3 n3 ca3, .slice p3 m3 cp3] 33) = W4) := hW4
  rw [hW4] at HB4 HD4 hC4 hC4'
  have HC4 : Hid (W4.heap[L1]? = some (.cells #[.slice a1 n1 ca1, .slice p1 m1 cp1] 33 (0, 0))) := hC4
  have HC4' : Hid (W4.heap[w3.heap.size]? = some (.cells #[.slice a3 n3 ca3, .slice p3 m3 cp3] 33 (0, 0))) := hC4'
  clear hC3 hC4 hC4' hW4 bo hD3 HB3
  go_wp2_with fail
  rw [HW4.out]
  refine (drawDiskWrite_any a n ca xs _ ⟨HA.out.1, (HA.out.belowW HB4.out).2⟩ HX.out (by omega)).mono ?_
  rintro e w5 ⟨a5, n5, ca5, p5, m5, cp5, da5, dl5, dc5, rfl, hD5, hX5, hb5⟩
  rw [HQ.out] at hD5 hX5 ⊢
  simp only at hD5 hX5 ⊢
  obtain rfl : n5 = n1 := by have h1 := hD5.rd.xlen; have h2 := HN1.out; omega
  obtain rfl : dl5 = dl1 := by have h1 := hX5.1; have h2 := HXL.out; omega
  obtain ⟨L3, hL3⟩ : ∃ L3, w3.heap.size = L3 := ⟨_, rfl⟩
  have HL3 : Hid (w3.heap.size = L3) := hL3
  rw [hL3] at HC4' ⊢
  have hL4 : L1 < W4.heap.size := (Array.getElem?_eq_some_iff.1 HC4.out).1
  have k5 := (hb5.block _ hL4).trans HC4.out
  have k5' := (hb5.block _ (Array.getElem?_eq_some_iff.1 HC4'.out).1).trans HC4'.out
  obtain ⟨e1, e2, e3, e4⟩ := two_cells k5
  have kk : Kept (fun g => g = L1) w5 ((w5.setCell ⟨L1, 0, none⟩ (.slice a5 n5 ca5)).setCell ⟨L1, 1, none⟩ (.slice p5 m5 cp5)) := (Kept.setCell w5 ⟨L1, 0, none⟩ _ (fun g => g = L1) rfl).trans (Kept.setCell _ ⟨L1, 1, none⟩ _ (fun g => g = L1) rfl)
  have hL13 : L3 ≠ L1 := by have := (Array.getElem?_eq_some_iff.1 k5).1; have h9 := hL31.out; omega
  have hbw : Below w.heap.size w w5 := HB4.out.trans (hb5.mono HB4.out.size)
  have hK : Ks w ((w5.setCell ⟨L1, 0, none⟩ (.slice a5 n5 ca5)).setCell ⟨L1, 1, none⟩ (.slice p5 m5 cp5)) L1 L3 a5 n5 ca5 p5 m5 cp5 D a3 n3 ca3 p3 m3 cp3 (dwX n5 D.1 D.2 b dl5, dwW n5 D.2 b dl5 X) da5 dl5 X a' n' ys := by
    refine ⟨(hbw.setCell hLw _).setCell hLw _, ?_, (kk.block _ (Array.getElem?_eq_some_iff.1 k5').1 hL13).trans k5', (hD5.kept kk (fun g hg h => by omega)).rd, ?_, (hX5.kept kk (fun g hg h => by omega)).read, HB.out.belowW ((hbw.setCell hLw _).setCell hLw _)⟩
    · simp [World.setCell, Array.getElem?_modify, k5]
    · exact (((HD4.out.kept (Kept.of_below hb5 (fun _ => False)) (fun _ _ h => h)).kept kk (fun g hg h => by omega))).rd
  obtain ⟨W6, hW6⟩ : ∃ W6, (w5.setCell ⟨L1, 0, none⟩ (.slice a5 n5 ca5)).setCell ⟨L1, 1, none⟩ (.slice p5 m5 cp5) = W6 := ⟨_, rfl⟩
  have HW6 : Hid ((w5.setCell ⟨L1, 0, none⟩ (.slice a5 n5 ca5)).setCell ⟨L1, 1, none⟩ (.slice p5 m5 cp5) = W6) := hW6
  rw [hW6] at hK
  obtain ⟨⟨f1, f2⟩, ⟨f3, f4⟩, f5, f6⟩ := hK.facts
  have HK : Hid (Ks w W6 L1 L3 a5 n5 ca5 p5 m5 cp5 D a3 n3 ca3 p3 m3 cp3 (dwX n5 D.1 D.2 b dl5, dwW n5 D.2 b dl5 X) da5 dl5 X a' n' ys) := hK
  clear hK hbw kk k5 k5' hD5 hX5 hb5 HD4 HC4 HC4' hL3 hW6 HB4 HA HX
  go_wp2_with fail
  rw [HW6.out]
  refine (writeS_rd HK.out.r1 cp5 b HK.out.x (by omega) hwf).mono ?_
  rintro e w7 ⟨a7, n7, ca7, p7, m7, cp7, rfl, hD7, hb7⟩
  have hfd : ∀ v : World, (Instr.field 33 (.agg #[.slice a7 n7 ca7, .slice p7 m7 cp7]) 0).run Try.prog v = .ok (.slice a7 n7 ca7) v := fun _ => by kernel_rfl
  have hK7 := HK.out.below hb7
  obtain ⟨⟨g1, g2⟩, ⟨g3, g4⟩, g5, g6⟩ := hK7.facts
  have hn7 := hD7.rd.xlen
  have hn3 := hK7.r3.xlen
  have hm3 := hK7.r3.vlen
  simp only at hn3 hm3
  have HK7 : Hid (Ks w w7 L1 L3 a5 n5 ca5 p5 m5 cp5 D a3 n3 ca3 p3 m3 cp3 (dwX n5 D.1 D.2 b dl5, dwW n5 D.2 b dl5 X) da5 dl5 X a' n' ys) := hK7
  clear hK7 hD7 hb7 HK f1 f2 f3 f4 f5 f6 e1 e2 e3 e4 HW6 HW4
  by_cases hB : dwB n5 D.2 b dl5 = true
  rotate_left
  · have ex : dwX n5 D.1 D.2 b dl5 = [] := if_neg hB
    have ew : dwW n5 D.2 b dl5 X = [] := if_neg hB
    rw [ex] at hn7 hn3
    rw [ew] at hm3
    obtain rfl : n7 = 0 := by simpa using hn7.symm
    obtain rfl : n3 = 0 := by simpa using hn3.symm
    obtain rfl : m3 = 0 := by simpa using hm3.symm
    have HR : Hid (RD w7 a3 0 ca3 p3 0 [] []) := by have := HK7.out.r3; rw [ex, ew] at this; exact this
    clear hn7 hn3 hm3 ex ew hB
    go_wp2_with fail
    refine (read_rd HR.out cp3 b hwf).mono ?_
    rintro e w8 ⟨ar, lr, cr, rfl, hlr, hrr, hb8⟩
    rw [dreadL_none] at hlr
    obtain rfl : lr = 0 := by simpa using hlr.symm
    have HBE : Hid (Below w.heap.size w w8) := HK7.out.bel.trans (hb8.mono HK7.out.bel.size)
    clear hlr hrr hb8
    go_wp2
    go_ret
    exact ⟨rfl, HBE.out⟩
  have ex : dwX n5 D.1 D.2 b dl5 = D.1 := if_pos hB
  have ew : dwW n5 D.2 b dl5 X = D.2 ++ [(b, X)] := if_pos hB
  obtain ⟨hv1, hv2, hv3, hv4, hv5⟩ := dwB_parts hB
  have HBB : Hid (dwB n5 D.2 b X.length = true) := by show _ = _; rw [HXL.out]; exact hB
  have HDN : Hid (D.1.length = n5) := HN1.out
  have hn64 : 64 ≤ n5 := (dwX_len (xs := D.1) HN1.out hB).2
  rw [ex] at hn7 hn3
  rw [ew] at hm3
  obtain rfl : n7 = n5 := by have := HDN.out; omega
  obtain rfl : n3 = n7 := by have := HDN.out; omega
  subst hv5
  have HKV : Hid (Ks w w7 L1 L3 a5 n3 ca5 p5 m5 cp5 D a3 n3 ca3 p3 m3 cp3 (D.1, D.2 ++ [(b, X)]) da5 64 X a' n' ys) := by have := HK7.out; rw [ex, ew] at this; exact this
  have HV4 : Hid (b < (n3 : Int) / 64) := hv4
  have hnn : n3 ≤ 2097152 := HKV.out.r1.dn
  clear hn7 hn3 hm3 ex ew hB hv1 hv2 HK7 HXL HN1 hv4
  go_wp2_with fail
  refine (barrier_rd HKV.out.r3 cp3).mono ?_
  rintro e w8 ⟨a8, n8, ca8, p8, m8, cp8, rfl, hD8, hb8⟩
  have HK8 : Hid (Ks w w8 L1 L3 a5 n3 ca5 p5 m5 cp5 D a3 n3 ca3 p3 m3 cp3 (D.1, D.2 ++ [(b, X)]) da5 64 X a' n' ys) := HKV.out.below hb8
  have HD8 : Hid (RD w8 a8 n8 ca8 p8 m8 (dbX n3 D.1 (D.2 ++ [(b, X)])) []) := hD8.rd
  clear hD8 hb8 HKV
  go_wp2_with fail
  refine (lwChoices_any a' n' ca' ys 0 _ HK8.out.y HY.out (by omega) (by omega)).mono ?_
  rintro e w9 ⟨ac, cc, ch, rfl, hch, hb9⟩
  have HK9 : Hid (Ks w w9 L1 L3 a5 n3 ca5 p5 m5 cp5 D a3 n3 ca3 p3 m3 cp3 (D.1, D.2 ++ [(b, X)]) da5 64 X a' n' ys) := HK8.out.below hb9
  have HD9 := Hid.out (HD8.out.below hb9)
  have HCH : Hid (IRow .i64 w9 ac 9 ch) := hch
  clear hch hb9 HK8 HD8
  go_wp2_with fail
  refine (crash_rd HD9 cp8 HCH.out (by omega)).mono ?_
  rintro e w10 ⟨a10, n10, ca10, p10, m10, cp10, rfl, hD10, hb10⟩
  obtain ⟨bq1, bq2, bq3, bq4⟩ := barrier_read (l := 9) (ch := ch) HDN.out HBB.out (by omega)
  have hn8 := HD9.xlen
  rw [bq1] at hn8 hD10
  obtain rfl : n8 = n3 := by omega
  rw [bq3] at hD10
  have hn10 := hD10.rd.xlen
  obtain rfl : n10 = n8 := by omega
  obtain rfl : m10 = 0 := by simpa using hD10.rd.vlen.symm
  have bo : Below w10.heap.size w10 (w10.alloc (Obj.cells #[.slice a10 n10 ca10, .slice p10 0 cp10] 33)) := (Below.refl _ _).alloc (Nat.le_refl _) _
  have hK11 := (HK9.out.below hb10).below bo
  have hD11 := hD10.rd.below bo
  have hC11 := heap_alloc_new w10 (Obj.cells #[.slice a10 n10 ca10, .slice p10 0 cp10] 33)
  obtain ⟨W11, hW11⟩ : ∃ W11, w10.alloc (Obj.cells #[.slice a10 n10 ca10, .slice p10 0 cp10] 33) = W11 := ⟨_, rfl⟩
  rw [hW11] at hK11 hD11 hC11
  have HW11 : Hid (w10.alloc (Obj.cells #[.slice a10 n10 ca10, .slice p10 0 cp10] 33) = W11) := hW11
  obtain ⟨L9, hL9⟩ : ∃ L9, w10.heap.size = L9 := ⟨_, rfl⟩
  have HL9 : Hid (w10.heap.size = L9) := hL9
  rw [hL9] at hC11
  have HK11 : Hid (Ks w W11 L1 L3 a5 n10 ca5 p5 m5 cp5 D a3 n10 ca3 p3 m3 cp3 (D.1, D.2 ++ [(b, X)]) da5 64 X a' n' ys) := hK11
  have HD11 : Hid (RD W11 a10 n10 ca10 p10 0 (stlAll D.1 (D.2 ++ [(b, X)])) []) := hD11
  have HC11 : Hid (W11.heap[L9]? = some (.cells #[.slice a10 n10 ca10, .slice p10 0 cp10] 33 (0, 0))) := hC11
  have HBR : Hid (dreadL n10 (stlAll D.1 (D.2 ++ [(b, X)])) [] b = X) := bq4
  have HXL : Hid (X.length = 64) := HK11.out.x.1
  clear bo hK11 hD11 hC11 hW11 hL9 hD10 hb10 hn10 hn8 bq1 bq2 bq3 bq4 HD9 HCH HK9 g1 g2 g3 g4 g5 g6 hfd
  go_wp2_with fail
  rw [HW11.out, HL9.out]
  have HLD9 : Hid (∀ V, Below W11.heap.size W11 V → V.cell? ⟨L9, 0, none⟩ = some (.slice a10 n10 ca10) ∧ V.cell? ⟨L9, 1, none⟩ = some (.slice p10 0 cp10)) := fun V hV => by
    obtain ⟨x1, x2, _, _⟩ := two_cells ((hV.block _ (Array.getElem?_eq_some_iff.1 HC11.out).1).trans HC11.out)
    exact ⟨x1, x2⟩
  have HLD3 : Hid (∀ V, Below W11.heap.size W11 V → V.cell? ⟨L3, 0, none⟩ = some (.slice a3 n10 ca3) ∧ V.cell? ⟨L3, 1, none⟩ = some (.slice p3 m3 cp3)) := fun V hV => (HK11.out.below hV).facts.2.1
  have HCX : Hid (∀ V, Below W11.heap.size W11 V → (convert 22 9 (.slice da5 64 dc5)).run Try.prog V = .ok (.string (strD X)) V) := fun V hV => cnv_str dc5 (HK11.out.below hV).x HBX.out
  refine wp_region_held_drew (S := fun V => Below W11.heap.size W11 V) (by kernel_rfl) ((Below.refl _ _).drew) (fun hS => ?_)
  refine wpAnyH_take (i := 0) (v := .agg #[.slice a10 n10 ca10, .slice p10 0 cp10]) rfl (by kernel_rfl) (by kernel_rfl) (by kernel_rfl) (fun _ _ _ h => h) (Or.inl ⟨rfl, fun V hV => by obtain ⟨x1, x2⟩ := HLD9.out V hV; go_simp⟩) hS ?_
  refine wpAnyH_take (i := 1) (v := .int .i64 b) rfl (by kernel_rfl) (by kernel_rfl) (by kernel_rfl) (fun _ _ _ h => h) (Or.inl ⟨rfl, fun V hV => by go_simp⟩) hS ?_
  refine wpAnyH_take (i := 4) (v := .slice da5 64 dc5) rfl (by kernel_rfl) (by kernel_rfl) (by kernel_rfl) (fun _ _ _ h => h) (Or.inl ⟨rfl, fun V hV => by go_simp⟩) hS ?_
  refine wpAnyH_take (i := 5) (v := .string (strD X)) rfl (by kernel_rfl) (by kernel_rfl) (by kernel_rfl) (fun _ _ _ h => h) (Or.inl ⟨rfl, fun V hV => by have x1 := HCX.out V hV; go_simp⟩) hS ?_
  refine wpAnyH_ready (rs := [2]) (by kernel_rfl) (by simp) (AllReadyH.cons rfl (fun K hK => ?_) AllReadyH.nil)
  go_simp
  refine (read_rd (HD11.out.below hS) cp10 b hwf).mono ?_
  rintro e V1 ⟨ar, lr, cr, rfl, hlr, hrr, hb1⟩
  have hS1 : Below W11.heap.size W11 V1 := hS.trans (hb1.mono hS.size)
  refine hK.out _ _ hS1 (fun _ => ?_)
  clear hK K hS hb1
  have hS := hS1
  clear hS1
  rw [HBR.out] at hlr hrr
  obtain rfl : lr = 64 := by have := HXL.out; omega
  have hc := cnv_str cr hrr HBX.out
  clear hlr hrr
  refine wpAnyH_ready (rs := [3]) (by kernel_rfl) (by simp) (AllReadyH.cons rfl (fun K hK => ?_) AllReadyH.nil)
  go_simp
  refine hK.out _ _ hS (fun _ => ?_)
  clear hK K hc
  refine wpAnyH_take (i := 6) (v := .bool false) rfl (by kernel_rfl) (by kernel_rfl) (by kernel_rfl) (fun _ _ _ h => h) (Or.inl ⟨rfl, fun V hV => by go_simp⟩) hS ?_
  refine wpAnyH_take (i := 7) (v := .bool false) rfl (by kernel_rfl) (by kernel_rfl) (by kernel_rfl) (fun _ _ _ h => h) (Or.inl ⟨rfl, fun V hV => by go_simp⟩) hS ?_
  refine wpAnyH_take (i := 8) (v := .agg #[.slice a3 n10 ca3, .slice p3 m3 cp3]) rfl (by kernel_rfl) (by kernel_rfl) (by kernel_rfl) (fun _ _ _ h => h) (Or.inl ⟨rfl, fun V hV => by obtain ⟨x1, x2⟩ := HLD3.out V hV; go_simp⟩) hS ?_
  refine wpAnyH_take (i := 9) (v := .int .i64 b) rfl (by kernel_rfl) (by kernel_rfl) (by kernel_rfl) (fun _ _ _ h => h) (Or.inl ⟨rfl, fun V hV => by go_simp⟩) hS ?_
  refine wpAnyH_take (i := 12) (v := .slice da5 64 dc5) rfl (by kernel_rfl) (by kernel_rfl) (by kernel_rfl) (fun _ _ _ h => h) (Or.inl ⟨rfl, fun V hV => by go_simp⟩) hS ?_
  refine wpAnyH_take (i := 13) (v := .string (strD X)) rfl (by kernel_rfl) (by kernel_rfl) (by kernel_rfl) (fun _ _ _ h => h) (Or.inl ⟨rfl, fun V hV => by have x1 := HCX.out V hV; go_simp⟩) hS ?_
  refine wpAnyH_ready (rs := [10]) (by kernel_rfl) (by simp) (AllReadyH.cons rfl (fun K hK => ?_) AllReadyH.nil)
  go_simp
  refine (read_rd (HK11.out.below hS).r3 cp3 b hwf).mono ?_
  rintro e V2 ⟨ar2, lr2, cr2, rfl, hlr, hrr, hb1⟩
  have hS1 : Below W11.heap.size W11 V2 := hS.trans (hb1.mono hS.size)
  refine hK.out _ _ hS1 (fun _ => ?_)
  clear hK K hS hb1
  have hS := hS1
  clear hS1
  simp only [write_read HBB.out] at hlr hrr
  obtain rfl : lr2 = 64 := by have := HXL.out; omega
  have hc := cnv_str cr2 hrr HBX.out
  clear hlr hrr
  refine wpAnyH_ready (rs := [11]) (by kernel_rfl) (by simp) (AllReadyH.cons rfl (fun K hK => ?_) AllReadyH.nil)
  go_simp
  refine hK.out _ _ hS (fun _ => ?_)
  clear hK K hc
  refine wpAnyH_take (i := 14) (v := .bool false) rfl (by kernel_rfl) (by kernel_rfl) (by kernel_rfl) (fun _ _ _ h => h) (Or.inl ⟨rfl, fun V hV => by go_simp⟩) hS ?_
  refine wpAnyH_ready (rs := [15]) (by kernel_rfl) (by simp) (AllReadyH.cons rfl (fun K hK => ?_) AllReadyH.nil)
  go_simp
  refine hK.out _ _ hS (fun _ => ?_)
  clear hK K
  refine wpAnyH_done (by kernel_rfl) ?_ _
  have HK12 : Hid (Ks w V2 L1 L3 a5 n10 ca5 p5 m5 cp5 D a3 n10 ca3 p3 m3 cp3 (D.1, D.2 ++ [(b, X)]) da5 64 X a' n' ys) := HK11.out.below hS
  clear hS HLD9 HLD3 HCX HK11 HD11 HC11 HBR
  go_wp2_with fail
  have HLD3 : Hid (∀ V, Below V2.heap.size V2 V → V.cell? ⟨L3, 0, none⟩ = some (.slice a3 n10 ca3) ∧ V.cell? ⟨L3, 1, none⟩ = some (.slice p3 m3 cp3)) := fun V hV => (HK12.out.below hV).facts.2.1
  go_cut [10] from 86 to 89 (fun r wx => ∃ R a12 ca12 p12 cp12 ch, r = .pointer (some ⟨R, 0, none⟩) ∧ Hid (Below V2.heap.size V2 wx) ∧ Hid (wx.heap[R]? = some (.cells #[.slice a12 n10 ca12, .slice p12 0 cp12] 33 (0, 0))) ∧ Hid (RD wx a12 n10 ca12 p12 0 (dcX n10 D.1 (D.2 ++ [(b, X)]) 9 ch) []))
  case first =>
    refine wp_region_held_drew (S := fun V => Below V2.heap.size V2 V) (by kernel_rfl) ((Below.refl _ _).drew) (fun hS => ?_)
    refine wpAnyH_take (i := 0) (v := .agg #[.slice a3 n10 ca3, .slice p3 m3 cp3]) rfl (by kernel_rfl) (by kernel_rfl) (by kernel_rfl) (fun _ _ _ h => h) (Or.inl ⟨rfl, fun V hV => by obtain ⟨x1, x2⟩ := HLD3.out V hV; go_simp⟩) hS ?_
    refine wpAnyH_take (i := 1) (v := (.slice a' n' ca')) rfl (by kernel_rfl) (by kernel_rfl) (by kernel_rfl) (fun _ _ _ h => h) (Or.inl ⟨rfl, fun V hV => by go_simp⟩) hS ?_
    refine wpAnyH_ready (rs := [2, 4]) (by kernel_rfl) (by simp) (AllReadyH.cons rfl (fun K hK => ?_) (AllReadyH.cons rfl (fun K hK => ?_) AllReadyH.nil))
    case' refine_1 =>
      go_simp
      refine (lwChoices_any a' n' ca' ys 3 _ (HK12.out.below hS).y HY.out (by omega) (by omega)).mono ?_
      rintro e V3 ⟨ac, cc, ch, rfl, hch, hb3⟩
      have hS3 : Below V2.heap.size V2 V3 := hS.trans (hb3.mono hS.size)
      refine hK.out _ _ hS3 (fun _ => ?_)
      clear hK K hb3 hS
      refine wpAnyH_ready (rs := [3, 4]) (by kernel_rfl) (by simp) (AllReadyH.cons rfl (fun K hK => ?_) (AllReadyH.cons rfl (fun K hK => ?_) AllReadyH.nil))
    case' refine_1.refine_1 =>
      go_simp
      refine (crash_rd (HK12.out.below hS3).r3 cp3 hch (by omega)).mono ?_
      rintro e V4 ⟨a12, n12, ca12, p12, m12, cp12, rfl, hD12, hb4⟩
      have hS4 : Below V2.heap.size V2 V4 := hS3.trans (hb4.mono hS3.size)
      refine hK.out _ _ hS4 (fun _ => ?_)
      clear hK K
      obtain rfl : n10 = n12 := by have h1 := hD12.rd.xlen; have h2 := crash_len (l := 9) (ch := ch) HDN.out HBB.out (by omega); exact h2.symm.trans h1
      obtain rfl : 0 = m12 := by simpa using hD12.rd.vlen
      refine wpAnyH_ready (rs := [4]) (by kernel_rfl) (by simp) (AllReadyH.cons rfl (fun K hK => ?_) AllReadyH.nil)
      go_simp
      refine hK.out _ _ (hS4.alloc hS4.size _) (fun _ => ?_)
      clear hK K
      refine wpAnyH_ready (rs := [5]) (by kernel_rfl) (by simp) (AllReadyH.cons rfl (fun K hK => ?_) AllReadyH.nil)
      go_simp
      refine hK.out _ _ (hS4.alloc hS4.size _) (fun _ => ?_)
      refine wpAnyH_done (by kernel_rfl) ?_ _
      clear hK K
      have HRD : Hid (RD (V4.alloc (Obj.cells #[.slice a12 n10 ca12, .slice p12 0 cp12] 33)) a12 n10 ca12 p12 0 (dcX n10 D.1 (D.2 ++ [(b, X)]) 9 ch) []) := hD12.rd.below ((Below.refl _ _).alloc (Nat.le_refl _) _)
      have HBL : Hid (Below V2.heap.size V2 (V4.alloc (Obj.cells #[.slice a12 n10 ca12, .slice p12 0 cp12] 33))) := hS4.alloc hS4.size _
      clear hD12 hb4
      go_wp2_with fail
      go_meet
      exact ⟨_, a12, ca12, p12, cp12, ch, rfl, HBL, heap_alloc_new V4 _, HRD⟩
    case' refine_1.refine_2 =>
      go_simp
      refine hK.out _ _ (hS3.alloc hS3.size _) (fun _ => ?_)
      clear hK K
      refine wpAnyH_ready (rs := [3]) (by kernel_rfl) (by simp) (AllReadyH.cons rfl (fun K hK => ?_) AllReadyH.nil)
      go_simp
      have bo : Below V3.heap.size V3 (V3.alloc (Obj.cells #[.slice none 0 0, .slice none 0 0] 33)) := (Below.refl _ _).alloc (Nat.le_refl _) _
      refine (crash_rd ((HK12.out.below hS3).below bo).r3 cp3 (hch.below bo) (by omega)).mono ?_
      rintro e V4 ⟨a12, n12, ca12, p12, m12, cp12, rfl, hD12, hb4⟩
      have hS4 : Below V2.heap.size V2 V4 := (hS3.trans (bo.mono hS3.size)).trans (hb4.mono (by have := hS3.size; simp; omega))
      refine hK.out _ _ hS4 (fun _ => ?_)
      clear hK K
      have k4 := (hb4.block V3.heap.size (by simp)).trans (heap_alloc_new V3 (Obj.cells #[.slice none 0 0, .slice none 0 0] 33))
      have hR : V2.heap.size ≤ V3.heap.size := hS3.size
      have e9 : (V3.alloc (Obj.cells #[.slice none 0 0, .slice none 0 0] 33)).heap.size = V3.heap.size + 1 := by simp
      rw [e9] at hD12
      clear e9 bo
      obtain rfl : n10 = n12 := by have h1 := hD12.rd.xlen; have h2 := crash_len (l := 9) (ch := ch) HDN.out HBB.out (by omega); exact h2.symm.trans h1
      obtain rfl : 0 = m12 := by simpa using hD12.rd.vlen
      obtain ⟨x1, x2, x3, x4⟩ := two_cells k4
      have kk : Kept (fun g => g = V3.heap.size) V4 ((V4.setCell ⟨V3.heap.size, 0, none⟩ (.slice a12 n10 ca12)).setCell ⟨V3.heap.size, 1, none⟩ (.slice p12 0 cp12)) := (Kept.setCell V4 ⟨V3.heap.size, 0, none⟩ _ (fun g => g = V3.heap.size) rfl).trans (Kept.setCell _ ⟨V3.heap.size, 1, none⟩ _ (fun g => g = V3.heap.size) rfl)
      have HRD : Hid (RD ((V4.setCell ⟨V3.heap.size, 0, none⟩ (.slice a12 n10 ca12)).setCell ⟨V3.heap.size, 1, none⟩ (.slice p12 0 cp12)) a12 n10 ca12 p12 0 (dcX n10 D.1 (D.2 ++ [(b, X)]) 9 ch) []) := (hD12.kept kk (fun g hg h => by omega)).rd
      have HBL : Hid (Below V2.heap.size V2 ((V4.setCell ⟨V3.heap.size, 0, none⟩ (.slice a12 n10 ca12)).setCell ⟨V3.heap.size, 1, none⟩ (.slice p12 0 cp12))) := (hS4.setCell hR _).setCell hR _
      have HCL : Hid (((V4.setCell ⟨V3.heap.size, 0, none⟩ (.slice a12 n10 ca12)).setCell ⟨V3.heap.size, 1, none⟩ (.slice p12 0 cp12)).heap[V3.heap.size]? = some (.cells #[.slice a12 n10 ca12, .slice p12 0 cp12] 33 (0, 0))) := by
        show _ = _
        simp [World.setCell, Array.getElem?_modify, k4]
      clear kk k4 hD12 hb4
      refine wpAnyH_ready (rs := [5]) (by kernel_rfl) (by simp) (AllReadyH.cons rfl (fun K hK => ?_) AllReadyH.nil)
      go_simp
      refine hK.out _ _ HBL.out (fun _ => ?_)
      refine wpAnyH_done (by kernel_rfl) ?_ _
      clear hK K
      go_wp2_with fail
      go_meet
      exact ⟨_, a12, ca12, p12, cp12, ch, rfl, HBL, HCL, HRD⟩
    case' refine_2 =>
      go_simp
      refine hK.out _ _ (hS.alloc hS.size _) (fun _ => ?_)
      clear hK K
      refine wpAnyH_ready (rs := [2]) (by kernel_rfl) (by simp) (AllReadyH.cons rfl (fun K hK => ?_) AllReadyH.nil)
      go_simp
      have bo : Below V2.heap.size V2 (V2.drew.alloc (Obj.cells #[.slice none 0 0, .slice none 0 0] 33)) := hS.alloc hS.size _
      refine (lwChoices_any a' n' ca' ys 3 _ (HK12.out.below bo).y HY.out (by omega) (by omega)).mono ?_
      rintro e V3 ⟨ac, cc, ch, rfl, hch, hb3⟩
      have hS3 : Below V2.heap.size V2 V3 := bo.trans (hb3.mono bo.size)
      refine hK.out _ _ hS3 (fun _ => ?_)
      clear hK K
      have k3 : V3.heap[V2.heap.size]? = some (.cells #[.slice none 0 0, .slice none 0 0] 33 (0, 0)) := (hb3.block V2.heap.size (by simp)).trans (heap_alloc_new V2.drew (Obj.cells #[.slice none 0 0, .slice none 0 0] 33))
      refine wpAnyH_ready (rs := [3]) (by kernel_rfl) (by simp) (AllReadyH.cons rfl (fun K hK => ?_) AllReadyH.nil)
      go_simp
      refine (crash_rd (HK12.out.below hS3).r3 cp3 hch (by omega)).mono ?_
      rintro e V4 ⟨a12, n12, ca12, p12, m12, cp12, rfl, hD12, hb4⟩
      have hS4 : Below V2.heap.size V2 V4 := hS3.trans (hb4.mono hS3.size)
      refine hK.out _ _ hS4 (fun _ => ?_)
      clear hK K
      have k4 := (hb4.block V2.heap.size (Array.getElem?_eq_some_iff.1 k3).1).trans k3
      have hR : V2.heap.size ≤ V2.heap.size := Nat.le_refl _
      have hR3 : V2.heap.size < V3.heap.size := (Array.getElem?_eq_some_iff.1 k3).1
      clear bo hb3 k3 hch
      obtain rfl : n10 = n12 := by have h1 := hD12.rd.xlen; have h2 := crash_len (l := 9) (ch := ch) HDN.out HBB.out (by omega); exact h2.symm.trans h1
      obtain rfl : 0 = m12 := by simpa using hD12.rd.vlen
      obtain ⟨x1, x2, x3, x4⟩ := two_cells k4
      have kk : Kept (fun g => g = V2.heap.size) V4 ((V4.setCell ⟨V2.heap.size, 0, none⟩ (.slice a12 n10 ca12)).setCell ⟨V2.heap.size, 1, none⟩ (.slice p12 0 cp12)) := (Kept.setCell V4 ⟨V2.heap.size, 0, none⟩ _ (fun g => g = V2.heap.size) rfl).trans (Kept.setCell _ ⟨V2.heap.size, 1, none⟩ _ (fun g => g = V2.heap.size) rfl)
      have HRD : Hid (RD ((V4.setCell ⟨V2.heap.size, 0, none⟩ (.slice a12 n10 ca12)).setCell ⟨V2.heap.size, 1, none⟩ (.slice p12 0 cp12)) a12 n10 ca12 p12 0 (dcX n10 D.1 (D.2 ++ [(b, X)]) 9 ch) []) := (hD12.kept kk (fun g hg h => by omega)).rd
      have HBL : Hid (Below V2.heap.size V2 ((V4.setCell ⟨V2.heap.size, 0, none⟩ (.slice a12 n10 ca12)).setCell ⟨V2.heap.size, 1, none⟩ (.slice p12 0 cp12))) := (hS4.setCell hR _).setCell hR _
      have HCL : Hid (((V4.setCell ⟨V2.heap.size, 0, none⟩ (.slice a12 n10 ca12)).setCell ⟨V2.heap.size, 1, none⟩ (.slice p12 0 cp12)).heap[V2.heap.size]? = some (.cells #[.slice a12 n10 ca12, .slice p12 0 cp12] 33 (0, 0))) := by
        show _ = _
        simp [World.setCell, Array.getElem?_modify, k4]
      clear kk k4 hD12 hb4
      refine wpAnyH_ready (rs := [5]) (by kernel_rfl) (by simp) (AllReadyH.cons rfl (fun K hK => ?_) AllReadyH.nil)
      go_simp
      refine hK.out _ _ HBL.out (fun _ => ?_)
      refine wpAnyH_done (by kernel_rfl) ?_ _
      clear hK K
      go_wp2_with fail
      go_meet
      exact ⟨_, a12, ca12, p12, cp12, ch, rfl, HBL, HCL, HRD⟩
  case rest =>
    obtain ⟨R, a12, ca12, p12, cp12, ch, rfl, HB13, HC13, HD13⟩ := hcut
    have hK13 := HK12.out.below HB13.out
    obtain ⟨⟨g1, g2⟩, ⟨g3, g4⟩, g5, g6⟩ := hK13.facts
    have HK13 : Hid (Ks w wc L1 L3 a5 n10 ca5 p5 m5 cp5 D a3 n10 ca3 p3 m3 cp3 (D.1, D.2 ++ [(b, X)]) da5 64 X a' n' ys) := hK13
    have hmm : m5 ≤ 2097152 := hK13.r1.dm
    clear hK13 HK12 HLD3 HB13
    have HBW : Hid (Below wc.heap.size wc wc) := Below.refl _ _
    go_wp2
    go_loopw [12] (fun o wr => ∃ k : Nat, (k : Int) ≤ (n10 : Int) / 64 ∧ k ≤ 40 ∧ o = .int .i64 k ∧ Hid (Below wc.heap.size wc wr)) (fun o _ => 40 - (intOf o).toNat)
    case atStart => exact ⟨0, by omega, by omega, rfl, HBW⟩
    case round =>
      obtain ⟨k, hk1, hk2, rfl, hbl⟩ := hrel
      clear HBW g1 g2 g3 g4 g5 g6
      have hKr := HK13.out.below hbl.out
      obtain ⟨⟨g1, g2⟩, ⟨g3, g4⟩, g5, g6⟩ := hKr.facts
      have HKR : Hid (Ks w wr L1 L3 a5 n10 ca5 p5 m5 cp5 D a3 n10 ca3 p3 m3 cp3 (D.1, D.2 ++ [(b, X)]) da5 64 X a' n' ys) := hKr
      obtain ⟨ws, hP, hv⟩ := hKr.r1.pend
      have HP : Hid (PRead wr p5 m5 ws) := hP
      have HV : Hid (wVal ws = D.2) := hv
      clear hKr hP hv
      have kR := (hbl.out.block _ (Array.getElem?_eq_some_iff.1 HC13.out).1).trans HC13.out
      obtain ⟨x1, x2, _, _⟩ := two_cells kR
      have HKRR : Hid (wr.heap[R]? = some (.cells #[.slice a12 n10 ca12, .slice p12 0 cp12] 33 (0, 0))) := kR
      clear kR
      have HDR : Hid (RD wr a12 n10 ca12 p12 0 (dcX n10 D.1 (D.2 ++ [(b, X)]) 9 ch) []) := HD13.out.below hbl.out
      by_cases hlt1 : (k : Int) < (n10 : Int) / 64
      · by_cases hlt2 : k < 40
        · go_wp2
          go_loop [13, 14] (fun c i => ∃ j : Nat, j ≤ m5 ∧ i = .int .i64 j ∧ c = .bool (calmB k b (wVal ws) j)) (fun _ i => m5 - (intOf i).toNat)
          case atStart => exact ⟨0, Nat.zero_le _, rfl, by rw [calm_zero]⟩
          case round =>
            obtain ⟨j, hj, rfl, rfl⟩ := hrel
            by_cases hlt : j < m5
            · obtain ⟨gp, offp, rfl, hcells⟩ := HP.out.2.1.resolve_left (by omega)
              have c1 := (hcells j hlt).1
              have HZ : Hid (calmB k b (wVal ws) (j + 1) = (calmB k b (wVal ws) j && !(wBlk ws j == k))) := calm_succ (by rw [HP.out.1]; exact hlt)
              generalize wBlk ws j = z at c1 HZ
              generalize calmB k b (wVal ws) j = cj at HZ ⊢
              clear hcells
              by_cases hq : z = (k : Int)
              · subst hq
                go_wp2
                go_round
                case rel => exact ⟨j + 1, by omega, by go_num, by rw [HZ.out]; simp⟩
                case measure => simp [intOf]; omega
              · have hq' : (z == (k : Int)) = false := by simpa using hq
                go_wp2
                go_round
                case rel => exact ⟨j + 1, by omega, by go_num, by rw [HZ.out, hq']; simp⟩
                case measure => simp [intOf]; omega
            · obtain rfl : j = m5 := by omega
              have HJ : Hid (j = (wVal ws).length) := by show _ = _; rw [wVal_len, HP.out.1]
              cases hcl : calmB k b (wVal ws) j
              · clear hcl
                go_wp2
                go_quiet (fail)
                go_wp2
                go_roundw
                case rel => exact ⟨k + 1, by omega, by omega, by go_num, (below_drewN hbl.out _)⟩
                case measure => simp [intOf]; omega
              · obtain ⟨hkb, hall⟩ : (k : Int) ≠ b ∧ ∀ x ∈ D.2, x.1 ≠ (k : Int) := by
                  rw [← HV.out]
                  refine calm_all ?_
                  rw [← HJ.out]
                  exact hcl
                have HY1 : Hid (dreadL n10 (dcX n10 D.1 (D.2 ++ [(b, X)]) 9 ch) [] k = dreadL n10 D.1 D.2 k) := crash_other HDN.out HBB.out (by omega) (by omega) hlt1 hkb hall
                have HY2 : Hid (BytD (dreadL n10 D.1 D.2 k)) := read_byt HBD.out hall
                have hwk : (Lit.int .i64 (k : Int)).wf = true := wf_i64 (by omega) (by omega)
                generalize hYY : dreadL n10 D.1 D.2 k = Y at HY1 HY2
                have HYY : Hid (dreadL n10 D.1 D.2 k = Y) := hYY
                have HLR : Hid (∀ V, Below wr.heap.size wr V → V.cell? ⟨R, 0, none⟩ = some (.slice a12 n10 ca12) ∧ V.cell? ⟨R, 1, none⟩ = some (.slice p12 0 cp12)) := fun V hV => by
                  obtain ⟨y1, y2, _, _⟩ := two_cells ((hV.block _ (Array.getElem?_eq_some_iff.1 HKRR.out).1).trans HKRR.out)
                  exact ⟨y1, y2⟩
                have HL1 : Hid (∀ V, Below wr.heap.size wr V → V.cell? ⟨L1, 0, none⟩ = some (.slice a5 n10 ca5) ∧ V.cell? ⟨L1, 1, none⟩ = some (.slice p5 j cp5)) := fun V hV => (HKR.out.below hV).facts.1
                clear hcl hkb hall hYY
                go_wp2
                refine wp_region_held_drew (S := fun V => Below wr.heap.size wr V) (by kernel_rfl) ((Below.refl _ _).drew) (fun hS => ?_)
                refine wpAnyH_take (i := 0) (v := .bool true) rfl (by kernel_rfl) (by kernel_rfl) (by kernel_rfl) (fun _ _ _ h => h) (Or.inl ⟨rfl, fun V hV => by go_simp⟩) hS ?_
                refine wpAnyH_take (i := 1) (v := .bool true) rfl (by kernel_rfl) (by kernel_rfl) (by kernel_rfl) (fun _ _ _ h => h) (Or.inl ⟨rfl, fun V hV => by go_simp⟩) hS ?_
                refine wpAnyH_take (i := 2) (v := .agg #[.slice a12 n10 ca12, .slice p12 0 cp12]) rfl (by kernel_rfl) (by kernel_rfl) (by kernel_rfl) (fun _ _ _ h => h) (Or.inl ⟨rfl, fun V hV => by obtain ⟨y1, y2⟩ := HLR.out V hV; go_simp⟩) hS ?_
                refine wpAnyH_take (i := 3) (v := .int .i64 (k : Int)) rfl (by kernel_rfl) (by kernel_rfl) (by kernel_rfl) (fun _ _ _ h => h) (Or.inl ⟨rfl, fun V hV => by go_simp⟩) hS ?_
                refine wpAnyH_take (i := 6) (v := .agg #[.slice a5 n10 ca5, .slice p5 j cp5]) rfl (by kernel_rfl) (by kernel_rfl) (by kernel_rfl) (fun _ _ _ h => h) (Or.inl ⟨rfl, fun V hV => by obtain ⟨y1, y2⟩ := HL1.out V hV; go_simp⟩) hS ?_
                refine wpAnyH_take (i := 7) (v := .int .i64 (k : Int)) rfl (by kernel_rfl) (by kernel_rfl) (by kernel_rfl) (fun _ _ _ h => h) (Or.inl ⟨rfl, fun V hV => by go_simp⟩) hS ?_
                refine wpAnyH_ready (rs := [4]) (by kernel_rfl) (by simp) (AllReadyH.cons rfl (fun K hK => ?_) AllReadyH.nil)
                go_simp
                refine (read_rd (HDR.out.below hS) cp12 k hwk).mono ?_
                rintro e V1 ⟨ar, lr, cr, rfl, hlr, hrr, hb1⟩
                have hS1 : Below wr.heap.size wr V1 := hS.trans (hb1.mono hS.size)
                refine hK.out _ _ hS1 (fun _ => ?_)
                clear hK K hb1 hS
                rw [HY1.out] at hlr hrr
                have HRR : Hid (IRow .u8 V1 ar lr Y) := hrr
                clear hrr
                refine wpAnyH_ready (rs := [5, 8]) (by kernel_rfl) (by simp) (AllReadyH.cons rfl (fun K hK => ?_) (AllReadyH.cons rfl (fun K hK => ?_) AllReadyH.nil))
                case' refine_1 =>
                  have hc := cnv_str cr HRR.out HY2.out
                  go_simp
                  refine hK.out _ _ hS1 (fun _ => ?_)
                  clear hK K hc
                  refine wpAnyH_ready (rs := [8]) (by kernel_rfl) (by simp) (AllReadyH.cons rfl (fun K hK => ?_) AllReadyH.nil)
                  go_simp
                  refine (readS_rd (HKR.out.below hS1).r1 cp5 k).mono ?_
                  rintro e V2 ⟨ar2, lr2, cr2, rfl, hlr2, hrr2, hb1⟩
                  have hS : Below wr.heap.size wr V2 := hS1.trans (hb1.mono hS1.size)
                  refine hK.out _ _ hS (fun _ => ?_)
                  clear hK K
                  rw [HYY.out] at hlr2 hrr2
                  have hc := cnv_str cr2 hrr2 HY2.out
                  refine wpAnyH_ready (rs := [9]) (by kernel_rfl) (by simp) (AllReadyH.cons rfl (fun K hK => ?_) AllReadyH.nil)
                  go_simp
                  refine hK.out _ _ hS (fun _ => ?_)
                  clear hK K hc hrr2 hb1 hS1
                case' refine_2 =>
                  go_simp
                  refine (readS_rd (HKR.out.below hS1).r1 cp5 k).mono ?_
                  rintro e V2 ⟨ar2, lr2, cr2, rfl, hlr2, hrr2, hb1⟩
                  have hS : Below wr.heap.size wr V2 := hS1.trans (hb1.mono hS1.size)
                  refine hK.out _ _ hS (fun _ => ?_)
                  clear hK K
                  rw [HYY.out] at hlr2 hrr2
                  have hc := cnv_str cr2 hrr2 HY2.out
                  have hc' := cnv_str cr (HRR.out.below hb1) HY2.out
                  clear hS1 hrr2 hb1
                  refine wpAnyH_ready (rs := [5, 9]) (by kernel_rfl) (by simp) (AllReadyH.cons rfl (fun K hK => ?_) (AllReadyH.cons rfl (fun K hK => ?_) AllReadyH.nil))
                case' refine_2.refine_1 =>
                  go_simp
                  refine hK.out _ _ hS (fun _ => ?_)
                  clear hK K
                  refine wpAnyH_ready (rs := [9]) (by kernel_rfl) (by simp) (AllReadyH.cons rfl (fun K hK => ?_) AllReadyH.nil)
                  go_simp
                  refine hK.out _ _ hS (fun _ => ?_)
                  clear hK K hc hc'
                case' refine_2.refine_2 =>
                  go_simp
                  refine hK.out _ _ hS (fun _ => ?_)
                  clear hK K
                  refine wpAnyH_ready (rs := [5]) (by kernel_rfl) (by simp) (AllReadyH.cons rfl (fun K hK => ?_) AllReadyH.nil)
                  go_simp
                  refine hK.out _ _ hS (fun _ => ?_)
                  clear hK K hc hc'
                all_goals
                  refine wpAnyH_take (i := 10) (v := .bool false) rfl (by kernel_rfl) (by kernel_rfl) (by kernel_rfl) (fun _ _ _ h => h) (Or.inl ⟨rfl, fun V hV => by go_simp⟩) hS ?_
                  refine wpAnyH_ready (rs := [11]) (by kernel_rfl) (by simp) (AllReadyH.cons rfl (fun K hK => ?_) AllReadyH.nil)
                  go_simp
                  refine hK.out _ _ hS (fun _ => ?_)
                  refine wpAnyH_done (by kernel_rfl) ?_ _
                  clear hK K
                  have HBN : Hid (Below wc.heap.size wc V2) := hbl.out.trans (hS.mono hbl.out.size)
                  clear hS
                  go_wp2
                  go_roundw
                  case rel => exact ⟨k + 1, by omega, by omega, by go_num, HBN⟩
                  case measure => simp [intOf]; omega
        · go_wp2
          go_ret
          exact ⟨rfl, HKR.out.bel⟩
      · go_wp2
        go_ret
        exact ⟨rfl, HKR.out.bel⟩
end Go.Proofs.Ytkkammbfomiofaa
