/-
  FnExactDiskWrite: the law's walk.
-/
import Derived.Test.YtkkammbfomiofabDws
import Derived.Test.YtkkammbfomiofabDrl
namespace Go.Proofs.Ytkkammbfomiofab
open Go.RowKit
set_option linter.unusedSimpArgs false
set_option linter.unusedVariables false

/-- A variable that holds a disk of the call's own. -/
structure DVar (W : World) (B : Nat) (T : Nat → Nat) (lo hi : Nat) (a : Option Addr) (n c : Nat) (xs : List Int) (p : Option Addr) (m d : Nat) (ws : List WV) : Prop where
  box : W.heap[B]? = some (.cells #[.slice a n c, .slice p m d] 30 (0, 0))
  own : DOwn T lo hi W a n xs p m ws
  out : hi ≤ B
theorem DVar.kept {W W' : World} {B : Nat} {T : Nat → Nat} {lo hi : Nat} {a : Option Addr} {n c : Nat} {xs : List Int} {p : Option Addr} {m d : Nat} {ws : List WV} {G : Nat → Prop} (h : DVar W B T lo hi a n c xs p m d ws) (hk : Kept G W W') (hd : ∀ g, lo ≤ g → g < hi → ¬ G g) (hB : ¬ G B) : DVar W' B T lo hi a n c xs p m d ws :=
  ⟨(hk.block B (Array.getElem?_eq_some_iff.1 h.box).1 hB).trans h.box, h.own.kept hk hd, h.out⟩
theorem DVar.below {W W' : World} {B : Nat} {T : Nat → Nat} {lo hi : Nat} {a : Option Addr} {n c : Nat} {xs : List Int} {p : Option Addr} {m d : Nat} {ws : List WV} (h : DVar W B T lo hi a n c xs p m d ws) (hb : Below W.heap.size W W') : DVar W' B T lo hi a n c xs p m d ws :=
  h.kept (Kept.of_below hb fun _ => False) (fun _ _ _ => id) id
theorem DVar.lt {W : World} {B : Nat} {T : Nat → Nat} {lo hi : Nat} {a : Option Addr} {n c : Nat} {xs : List Int} {p : Option Addr} {m d : Nat} {ws : List WV} (h : DVar W B T lo hi a n c xs p m d ws) : B < W.heap.size := (Array.getElem?_eq_some_iff.1 h.box).1
/-- The answer laid into a new variable. -/
theorem DVar.new {W : World} {T : Nat → Nat} {lo : Nat} {a : Option Addr} {n c : Nat} {xs : List Int} {p : Option Addr} {m d : Nat} {ws : List WV} (h : DOwn T lo W.heap.size W a n xs p m ws) :
    DVar (W.alloc (.cells #[.slice a n c, .slice p m d] 30)) W.heap.size T lo W.heap.size a n c xs p m d ws := ⟨heap_alloc_new W _, h.alloc _, Nat.le_refl _⟩

/-- The law's own variables: its argument's box. -/
def PBox (W : World) (B : Nat) (a : Option Addr) (n ca : Nat) (p : Option Addr) (m cp : Nat) : Prop := W.heap[B]? = some (.cells #[.slice a n ca, .slice p m cp] 25 (0, 0))
theorem PBox.below {W W' : World} {B : Nat} {a : Option Addr} {n ca : Nat} {p : Option Addr} {m cp : Nat} (h : PBox W B a n ca p m cp) (hb : Below W.heap.size W W') : PBox W' B a n ca p m cp := (hb.block B (Array.getElem?_eq_some_iff.1 h).1).trans h
theorem PBox.kept {W W' : World} {G : Nat → Prop} {B : Nat} {a : Option Addr} {n ca : Nat} {p : Option Addr} {m cp : Nat} (h : PBox W B a n ca p m cp) (hk : Kept G W W') (hB : ¬ G B) : PBox W' B a n ca p m cp := (hk.block B (Array.getElem?_eq_some_iff.1 h).1 hB).trans h

set_option maxRecDepth 100000 in
set_option maxHeartbeats 4000000 in
theorem law_diskWrite (a p : Option Addr) (n ca m cp : Nat) (xs : List Int) (ws : List WV) (b : Int) (dx : Option Addr) (l lc : Nat) (X : List Int) (w : World) (ha : IRow .u8 w a n xs) (hp : PRaw w p m ws) (hl : Lens m ws) (hn : (n : Int) ≤ 9223372036854775807) (hm : (m : Int) ≤ 9223372036854775807) (hb : (Lit.int .i64 b).wf = true) (hX : IRow .u8 w dx l X) (hll : (l : Int) ≤ 9223372036854775807) :
    Calls Try.prog 5 #[.agg #[.slice a n ca, .slice p m cp], .int .i64 b, .slice dx l lc] w fun e w' => e = .returned (.bool true) ∧ Below w.heap.size w w' := by
  by_cases hbig : 1048576 < (l : Int)
  · clear ha hp hl hX
    go_enter Try.func5, Try.ntmps5
    go_wp2
    go_ret
    exact ⟨rfl, (Below.refl _ _).alloc (Nat.le_refl _) _⟩
  have l1 : l ≤ 2097152 := by omega
  go_enter Try.func5, Try.ntmps5
  go_wp2_with fail
  refine (szDisk_any _ _ _ _ _ _ _ ws _ (hp.below ((Below.refl _ _).alloc (Nat.le_refl _) _)) hl hn hm (by omega) (by omega)).mono ?_
  rintro e w1 ⟨r, rfl, hr, hb1⟩
  have hbel : Below w.heap.size w w1 := ((Below.refl _ _).alloc (Nat.le_refl _) _).trans (hb1.mono (by simp))
  have k1 := (hb1.block w.heap.size (by simp)).trans (heap_alloc_new w _)
  have s1 : w.heap.size < w1.heap.size := (Array.getElem?_eq_some_iff.1 k1).1
  obtain ⟨p1, p2, _, _⟩ := two_cells k1
  by_cases hneg : r < 0
  · clear hr hb1 k1 ha hp hl hX
    go_wp2
    go_ret
    exact ⟨rfl, hbel⟩
  obtain ⟨b1, b2, b3⟩ := hr (by omega)
  have n1 : n ≤ 2097152 := by omega
  have m1 : m ≤ 2097152 := by omega
  have HA : Hid (IRow .u8 w1 a n xs) := ha.below hbel
  have HX : Hid (IRow .u8 w1 dx l X) := hX.below hbel
  have HP : Hid (PRead w1 p m ws) := (hp.below hbel).read (fun i hi => by have := b3 i hi; omega)
  have K1 : Hid (PBox w1 w.heap.size a n ca p m cp) := k1
  clear hr hb1 ha hp hl b3 hX k1
  go_wp2_with fail
  refine (toDisk_any _ _ _ _ _ _ xs ws _ HA.out HP.out n1 m1).mono ?_
  rintro e wA ⟨T1, v1, g1, q1, rfl, hD1, e1, hbA⟩
  clear p1 p2
  go_wp2_with fail
  refine (toByteS_any _ _ _ X _ (HX.out.below hbA) l1).mono ?_
  rintro e wB ⟨rfl, hrB, hbB, hsB⟩
  have hDB := hD1.below hbB
  have hBB : Below w1.heap.size w1 wB := hbA.trans (hbB.mono hbA.size)
  clear hD1
  go_wp2_with fail
  refine ((diskWrite_spec _ _ _ _ _ _ xs v1 b _ _ _ X _ hDB.dur.read hDB.pend.read hrB.read (Nat.le_refl _) n1 m1 l1 hb).mono (fun _ _ h => h.d)).mono ?_
  rintro e w2 ⟨T2, v2, a2, n2, c2, q2, m2, d2, rfl, hD2, e2, _, hb2⟩
  rw [e1] at e2 hD2
  have hB2 : Below w1.heap.size w1 w2 := hBB.trans (hb2.mono hBB.size)
  have V8 : DVar _ w2.heap.size T2 wB.heap.size w2.heap.size a2 n2 c2 _ q2 m2 d2 v2 := DVar.new hD2
  generalize hdx : dwX n xs (wVal ws) b l = dX at *
  generalize hdw : dwW n (wVal ws) b l X = dW at *
  have HDX : Hid (dwX n xs (wVal ws) b l = dX ∧ dwW n (wVal ws) b l X = dW) := ⟨hdx, hdw⟩
  have E2 : Hid (wVal v2 = dW) := e2
  have n2' := hD2.dn
  have m2' := hD2.dm
  obtain ⟨W2, hW2⟩ : ∃ W2, w2.alloc (.cells #[.slice a2 n2 c2, .slice q2 m2 d2] 30) = W2 := ⟨_, rfl⟩
  rw [hW2] at V8
  have bW2 : Below w2.heap.size w2 W2 := by rw [← hW2]; exact (Below.refl _ w2).alloc (Nat.le_refl _) _
  have HB2 : Hid (Below w1.heap.size w1 W2) := hB2.trans (bW2.mono hB2.size)
  have K2 : Hid (PBox W2 w.heap.size a n ca p m cp) := K1.out.below HB2.out
  obtain ⟨p1, p2, _, _⟩ := two_cells K2.out
  have V8' : Hid (DVar W2 w2.heap.size T2 wB.heap.size w2.heap.size a2 n2 c2 dX q2 m2 d2 v2) := V8
  have sz2 : Hid (w1.heap.size ≤ wB.heap.size ∧ wB.heap.size ≤ w2.heap.size ∧ w2.heap.size < W2.heap.size) := ⟨hBB.size, hb2.size, V8.lt⟩
  clear hDB hrB hbA hbB hsB hBB hb2 hD2 e1 e2 hB2 V8 bW2 hdx hdw
  go_wp2_with fail
  try rw [hW2]
  clear hW2
  refine (toDisk_any _ _ _ _ _ _ xs ws _ (HA.out.below HB2.out) (HP.out.below HB2.out) n1 m1).mono ?_
  rintro e w3 ⟨T3, v3, g3, q3, rfl, hD3, e3, hb3⟩
  have V9 : DVar _ w3.heap.size T3 W2.heap.size w3.heap.size (some ⟨g3, 0, none⟩) n n xs (some ⟨q3, 0, none⟩) m m v3 := DVar.new hD3
  obtain ⟨W3, hW3⟩ : ∃ W3, w3.alloc (.cells #[.slice (some ⟨g3, 0, none⟩) n n, .slice (some ⟨q3, 0, none⟩) m m] 30) = W3 := ⟨_, rfl⟩
  rw [hW3] at V9
  have bW3 : Below w3.heap.size w3 W3 := by rw [← hW3]; exact (Below.refl _ w3).alloc (Nat.le_refl _) _
  have b23 : Below W2.heap.size W2 W3 := hb3.trans (bW3.mono hb3.size)
  have E3 : Hid (wVal v3 = wVal ws) := e3
  have HB3 : Hid (Below w1.heap.size w1 W3) := HB2.out.trans (b23.mono HB2.out.size)
  have V83 : Hid (DVar W3 w2.heap.size T2 wB.heap.size w2.heap.size a2 n2 c2 dX q2 m2 d2 v2) := V8'.out.below b23
  have V93 : Hid (DVar W3 w3.heap.size T3 W2.heap.size w3.heap.size (some ⟨g3, 0, none⟩) n n xs (some ⟨q3, 0, none⟩) m m v3) := V9
  have K3 : Hid (PBox W3 w.heap.size a n ca p m cp) := K2.out.below b23
  have sz3 : Hid (W2.heap.size ≤ w3.heap.size ∧ w3.heap.size < W3.heap.size) := ⟨hb3.size, V9.lt⟩
  clear e3 hD3 hb3 V9 bW3 b23 HB2 V8' K2 p1 p2
  go_wp2_with fail
  try rw [hW3]
  clear hW3
  refine (toByteS_any _ _ _ X _ (HX.out.below HB3.out) l1).mono ?_
  rintro e w4 ⟨rfl, r4, hb4, hs4⟩
  have V84 : Hid (DVar w4 w2.heap.size T2 wB.heap.size w2.heap.size a2 n2 c2 dX q2 m2 d2 v2) := V83.out.below hb4
  have V94 : Hid (DVar w4 w3.heap.size T3 W2.heap.size w3.heap.size (some ⟨g3, 0, none⟩) n n xs (some ⟨q3, 0, none⟩) m m v3) := V93.out.below hb4
  have K4 : Hid (PBox w4 w.heap.size a n ca p m cp) := K3.out.below hb4
  have HB4 : Hid (Below w1.heap.size w1 w4) := HB3.out.trans (hb4.mono HB3.out.size)
  have R4 : Hid (Row .u8 (fun g => g = W3.heap.size) w4 (some ⟨W3.heap.size, 0, none⟩) l X) := r4
  have sz4 : Hid (W3.heap.size < w4.heap.size) := hs4
  obtain ⟨o1, o2, _, _⟩ := two_cells V94.out.box
  clear V83 V93 K3 HB3 hb4 hs4 r4
  go_wp2_with fail
  refine (diskWrite_impl _ _ _ _ _ _ xs v3 b _ _ _ X _ V94.out.own.dur.read V94.out.own.pend.read R4.out.read (Nat.le_refl _) n1 m1 l1 hb).mono ?_
  rintro e w5 ⟨T5, v5, a5, n5, c5, q5, m5, d5, rfl, hD5, e5, _, hb5⟩
  rw [E3.out, HDX.out.2] at e5
  rw [E3.out, HDX.out.1] at hD5
  have V11 : DVar _ w5.heap.size T5 w4.heap.size w5.heap.size a5 n5 c5 _ q5 m5 d5 v5 := DVar.new hD5
  have n5' := hD5.dn
  have m5' := hD5.dm
  obtain ⟨W5, hW5⟩ : ∃ W5, w5.alloc (.cells #[.slice a5 n5 c5, .slice q5 m5 d5] 30) = W5 := ⟨_, rfl⟩
  rw [hW5] at V11
  have bW5 : Below w5.heap.size w5 W5 := by rw [← hW5]; exact (Below.refl _ w5).alloc (Nat.le_refl _) _
  have b45 : Below w4.heap.size w4 W5 := hb5.trans (bW5.mono hb5.size)
  have E5 : Hid (wVal v5 = dW) := e5
  have V85 : Hid (DVar W5 w2.heap.size T2 wB.heap.size w2.heap.size a2 n2 c2 dX q2 m2 d2 v2) := V84.out.below b45
  have V95 : Hid (DVar W5 w3.heap.size T3 W2.heap.size w3.heap.size (some ⟨g3, 0, none⟩) n n xs (some ⟨q3, 0, none⟩) m m v3) := V94.out.below b45
  have V115 : Hid (DVar W5 w5.heap.size T5 w4.heap.size w5.heap.size a5 n5 c5 dX q5 m5 d5 v5) := V11
  have K5 : Hid (PBox W5 w.heap.size a n ca p m cp) := K4.out.below b45
  have R5 : Hid (Row .u8 (fun g => g = W3.heap.size) W5 (some ⟨W3.heap.size, 0, none⟩) l X) := R4.out.below b45
  have HB5 : Hid (Below w1.heap.size w1 W5) := HB4.out.trans (b45.mono HB4.out.size)
  have sz5 : Hid (w4.heap.size ≤ w5.heap.size ∧ w5.heap.size < W5.heap.size) := ⟨hb5.size, V11.lt⟩
  obtain ⟨o3, o4, _, _⟩ := two_cells V85.out.box
  obtain ⟨o5, o6, _, _⟩ := two_cells V115.out.box
  clear V84 V94 K4 HB4 e5 hD5 hb5 V11 bW5 b45 R4 o1 o2
  go_wp2_with fail
  try rw [hW5]
  clear hW5
  refine (eqDisk_any _ _ _ _ _ _ _ _ _ _ _ _ dX dX v5 v2 _ V115.out.own.dur.read V85.out.own.dur.read V115.out.own.pend.read V85.out.own.pend.read n5' n2' m5' m2').mono ?_
  rintro e w6 ⟨rfl, hb6⟩
  rw [show decide (dX = dX ∧ wVal v5 = wVal v2) = true from by simp [E5.out, E2.out]]
  have bD : Below W5.heap.size W5 w6.drew := hb6.drew
  have V86 : Hid (DVar w6.drew w2.heap.size T2 wB.heap.size w2.heap.size a2 n2 c2 dX q2 m2 d2 v2) := V85.out.below bD
  have V96 : Hid (DVar w6.drew w3.heap.size T3 W2.heap.size w3.heap.size (some ⟨g3, 0, none⟩) n n xs (some ⟨q3, 0, none⟩) m m v3) := V95.out.below bD
  have V116 : Hid (DVar w6.drew w5.heap.size T5 w4.heap.size w5.heap.size a5 n5 c5 dX q5 m5 d5 v5) := V115.out.below bD
  have K6 : Hid (PBox w6.drew w.heap.size a n ca p m cp) := K5.out.below bD
  have R6 : Hid (Row .u8 (fun g => g = W3.heap.size) w6.drew (some ⟨W3.heap.size, 0, none⟩) l X) := R5.out.below bD
  have HB6 : Hid (Below w1.heap.size w1 w6.drew) := HB5.out.trans (bD.mono HB5.out.size)
  have hA6 := HA.out.below HB6.out
  have hP6 := HP.out.below HB6.out
  have sz6 : Hid (W5.heap.size ≤ w6.heap.size) := hb6.size
  have y5 : w6.cell? ⟨w3.heap.size, 0, none⟩ = some (.slice (some ⟨g3, 0, none⟩) n n) := (two_cells V96.out.box).1
  have y6 : w6.cell? ⟨w3.heap.size, 1, none⟩ = some (.slice (some ⟨q3, 0, none⟩) m m) := (two_cells V96.out.box).2.1
  have y7 : w6.cell? ⟨w.heap.size, 0, none⟩ = some (.slice a n ca) := (two_cells K6.out).1
  have y8 : w6.cell? ⟨w.heap.size, 1, none⟩ = some (.slice p m cp) := (two_cells K6.out).2.1
  have hD6 := V96.out.own
  have j6 := V96.out.box
  have s6 := V96.out.lt
  clear V85 V95 V115 K5 R5 HB5 hb6 bD o3 o4 o5 o6
  go_wp2_with fail
  go_region_with (first
    | (go_at_call 15; refine (toDisk_any _ _ _ _ _ _ xs ws w6.drew hA6 hP6 n1 m1).mono ?_; rintro e wC ⟨T7, v7, g7, q7, rfl, hD7, e7, hb7⟩; obtain ⟨z1, z2, z3, z4⟩ := two_cells ((hb7.block w3.heap.size s6).trans j6); have E7 : Hid (wVal v7 = wVal ws) := e7; clear e7)
    | (go_at_call 17; refine (eqDisk_any _ _ _ _ _ _ _ _ _ _ _ _ xs xs v3 v7 _ (hD6.below hb7).dur.read hD7.dur.read (hD6.below hb7).pend.read hD7.pend.read n1 n1 m1 m1).mono ?_; rintro e w7 ⟨rfl, hb8⟩; rw [show decide (xs = xs ∧ wVal v3 = wVal v7) = true from by simp [E3.out, E7.out]]))
  all_goals
    have b67 : Below w6.drew.heap.size w6.drew w7 := hb7.trans (hb8.mono hb7.size)
    have V87 : Hid (DVar w7 w2.heap.size T2 wB.heap.size w2.heap.size a2 n2 c2 dX q2 m2 d2 v2) := V86.out.below b67
    have V97 : Hid (DVar w7 w3.heap.size T3 W2.heap.size w3.heap.size (some ⟨g3, 0, none⟩) n n xs (some ⟨q3, 0, none⟩) m m v3) := V96.out.below b67
    have V117 : Hid (DVar w7 w5.heap.size T5 w4.heap.size w5.heap.size a5 n5 c5 dX q5 m5 d5 v5) := V116.out.below b67
    have K7 : Hid (PBox w7 w.heap.size a n ca p m cp) := K6.out.below b67
    have R7 : Hid (Row .u8 (fun g => g = W3.heap.size) w7 (some ⟨W3.heap.size, 0, none⟩) l X) := R6.out.below b67
    have HB7 : Hid (Below w1.heap.size w1 w7) := HB6.out.trans (b67.mono HB6.out.size)
    have sz7 : Hid (w6.heap.size ≤ w7.heap.size) := b67.size
    clear hb7 hb8 b67 hD7 hD6 hA6 hP6 j6 s6 y5 y6 y7 y8 z1 z2 z3 z4 V86 V96 V116 K6 R6 HB6
    go_wp2_with fail
    refine (toByteS_any _ _ _ X _ (HX.out.below HB7.out) l1).mono ?_
    rintro e w8 ⟨rfl, r8, hb8, hs8⟩
    have R8 := R7.out.below hb8
    go_wp2_with fail
    refine (eqByteS_any _ _ _ _ _ _ X X _ R8.read r8.read l1 l1).mono ?_
    rintro e w9 ⟨rfl, d9, rfl⟩
    rw [show decide (X = X) = true from by simp]
    obtain ⟨W9, hW9⟩ : ∃ W9, w8.drewN d9 = W9 := ⟨_, rfl⟩
    have b79 : Below w7.heap.size w7 W9 := by rw [← hW9]; exact hb8.trans ((below_dD d9).mono hb8.size)
    have V89 : Hid (DVar W9 w2.heap.size T2 wB.heap.size w2.heap.size a2 n2 c2 dX q2 m2 d2 v2) := V87.out.below b79
    have V99 : Hid (DVar W9 w3.heap.size T3 W2.heap.size w3.heap.size (some ⟨g3, 0, none⟩) n n xs (some ⟨q3, 0, none⟩) m m v3) := V97.out.below b79
    have V119 : Hid (DVar W9 w5.heap.size T5 w4.heap.size w5.heap.size a5 n5 c5 dX q5 m5 d5 v5) := V117.out.below b79
    have K9 : Hid (PBox W9 w.heap.size a n ca p m cp) := K7.out.below b79
    have R9 : Hid (Row .u8 (fun g => g = W3.heap.size) W9 (some ⟨W3.heap.size, 0, none⟩) l X) := R7.out.below b79
    have HB9 : Hid (Below w1.heap.size w1 W9) := HB7.out.trans (b79.mono HB7.out.size)
    have sz9 : Hid (w7.heap.size ≤ W9.heap.size) := b79.size
    obtain ⟨o1, o2, _, _⟩ := two_cells V99.out.box
    clear R8 r8 hb8 hs8 b79 V87 V97 V117 K7 R7 HB7
    go_wp2_with fail
    try rw [hW9]
    clear hW9
    refine (markDisk_any _ _ _ _ _ _ _ T3 (fun g => W2.heap.size ≤ g ∧ g < w3.heap.size) xs v3 _ V99.out.own.dur V99.out.own.pend (fun g hg => by have := V99.out.lt; omega) n1 m1 (by omega) (by omega)).mono ?_
    rintro e w10 ⟨x10, rfl, _, _, hu10, hk10⟩
    have Z := And.intro sz2.out (And.intro sz3.out (And.intro sz4.out (And.intro sz5.out (And.intro sz6.out (And.intro sz7.out sz9.out)))))
    have V810 : Hid (DVar w10 w2.heap.size T2 wB.heap.size w2.heap.size a2 n2 c2 dX q2 m2 d2 v2) := V89.out.kept hk10 (fun g h1 h2 h3 => by omega) (fun h3 => by omega)
    have V1110 : Hid (DVar w10 w5.heap.size T5 w4.heap.size w5.heap.size a5 n5 c5 dX q5 m5 d5 v5) := V119.out.kept hk10 (fun g h1 h2 h3 => by omega) (fun h3 => by omega)
    have K10 : Hid (PBox w10 w.heap.size a n ca p m cp) := K9.out.kept hk10 (fun h3 => by omega)
    have R10 : Hid (Row .u8 (fun g => g = W3.heap.size) w10 (some ⟨W3.heap.size, 0, none⟩) l X) := R9.out.kept hk10 (fun g h1 h3 => by omega)
    have HB10 : Hid (Below w1.heap.size w1 w10) := HB9.out.trans (hk10.below (by omega) (fun g hg => by omega))
    have sz10 : Hid (W9.heap.size ≤ w10.heap.size) := hk10.size
    have bb := mpos_bound (1 + (n : Int)) x10 m (fun i hi => (hu10.2.2 i hi).2) m (Nat.le_refl _)
    have t1 : 0 ≤ mpos (1 + (n : Int)) x10 m := by omega
    have t2 : mpos (1 + (n : Int)) x10 m ≤ 35184372088832 := by omega
    generalize mpos (1 + (n : Int)) x10 m = kk at *
    clear hu10 hk10 V89 V99 V119 K9 R9 HB9 o1 o2 bb Z
    go_wp2_with fail
    refine (markByteS_any _ _ _ _ _ _ _ R10.out l1 t1 t2).mono ?_
    rintro e w11 ⟨rfl, _, hk11⟩
    have Z := And.intro sz2.out (And.intro sz3.out (And.intro sz4.out (And.intro sz5.out (And.intro sz6.out (And.intro sz7.out (And.intro sz9.out sz10.out))))))
    have V811 : Hid (DVar w11 w2.heap.size T2 wB.heap.size w2.heap.size a2 n2 c2 dX q2 m2 d2 v2) := V810.out.kept hk11 (fun g h1 h2 h3 => by omega) (fun h3 => by omega)
    have V1111 : Hid (DVar w11 w5.heap.size T5 w4.heap.size w5.heap.size a5 n5 c5 dX q5 m5 d5 v5) := V1110.out.kept hk11 (fun g h1 h2 h3 => by omega) (fun h3 => by omega)
    have K11 : Hid (PBox w11 w.heap.size a n ca p m cp) := K10.out.kept hk11 (fun h3 => by omega)
    have HB11 : Hid (Below w1.heap.size w1 w11) := HB10.out.trans (hk11.below (by omega) (fun g hg => by omega))
    have sz11 : Hid (w10.heap.size ≤ w11.heap.size) := hk11.size
    have t3 : ¬ kk + (l : Int) < 0 := by omega
    have t3' : decide (kk + (l : Int) < 0) = false := by simpa using t3
    obtain ⟨o1, o2, _, _⟩ := two_cells V811.out.box
    obtain ⟨o3, o4, _, _⟩ := two_cells V1111.out.box
    clear hk11 V810 V1110 K10 HB10 R10 Z
    go_wp2_with fail
    refine (eqDisk_any _ _ _ _ _ _ _ _ _ _ _ _ dX dX v5 v2 _ V1111.out.own.dur.read V811.out.own.dur.read V1111.out.own.pend.read V811.out.own.pend.read n5' n2' m5' m2').mono ?_
    rintro e w12 ⟨rfl, hb12⟩
    rw [show decide (dX = dX ∧ wVal v5 = wVal v2) = true from by simp [E5.out, E2.out]]
    have V812 : Hid (DVar w12 w2.heap.size T2 wB.heap.size w2.heap.size a2 n2 c2 dX q2 m2 d2 v2) := V811.out.below hb12
    have V1112 : Hid (DVar w12 w5.heap.size T5 w4.heap.size w5.heap.size a5 n5 c5 dX q5 m5 d5 v5) := V1111.out.below hb12
    have K12 : Hid (PBox w12 w.heap.size a n ca p m cp) := K11.out.below hb12
    have HB12 : Hid (Below w1.heap.size w1 w12) := HB11.out.trans (hb12.mono HB11.out.size)
    have sz12 : Hid (w11.heap.size ≤ w12.heap.size) := hb12.size
    obtain ⟨o5, o6, _, _⟩ := two_cells V1112.out.box
    clear hb12 V811 V1111 K11 HB11 o1 o2 o3 o4
    go_wp2_with fail
    refine (markDisk_any _ _ _ _ _ _ _ T5 (fun g => w4.heap.size ≤ g ∧ g < w5.heap.size) dX v5 _ V1112.out.own.dur V1112.out.own.pend (fun g hg => by have := V1112.out.lt; omega) n5' m5' (by omega) (by omega)).mono ?_
    rintro e w13 ⟨x13, rfl, hmk13, hr13, hu13, hk13⟩
    have Z := And.intro sz2.out (And.intro sz3.out (And.intro sz4.out (And.intro sz5.out (And.intro sz6.out (And.intro sz7.out (And.intro sz9.out (And.intro sz10.out (And.intro sz11.out sz12.out))))))))
    have V813 : Hid (DVar w13 w2.heap.size T2 wB.heap.size w2.heap.size a2 n2 c2 dX q2 m2 d2 v2) := V812.out.kept hk13 (fun g h1 h2 h3 => by omega) (fun h3 => by omega)
    have K13 : Hid (PBox w13 w.heap.size a n ca p m cp) := K12.out.kept hk13 (fun h3 => by omega)
    have HB13 : Hid (Below w1.heap.size w1 w13) := HB12.out.trans (hk13.below (by omega) (fun g hg => by omega))
    have bx13 := (hk13.block w5.heap.size V1112.out.lt (fun h3 => by omega)).trans V1112.out.box
    have sz13 : Hid (w12.heap.size ≤ w13.heap.size) := hk13.size
    obtain ⟨o7, o8, _, _⟩ := two_cells bx13
    have H13 : Hid (IRow .u8 w13 a5 n5 (marks 1 n5) ∧ PRead w13 q5 m5 x13 ∧ Marked (1 + (n5 : Int)) x13) := ⟨hr13.read, hu13.read, hmk13⟩
    have bb := (mpos_bound (1 + (n5 : Int)) x13 m5 (fun i hi => (hu13.2.2 i hi).2) m5 (Nat.le_refl _)).1
    clear hk13 V812 V1112 K12 HB12 o5 o6 bx13 hmk13 hr13 hu13 Z
    go_wp2_with fail
    refine (heldDisk_any _ _ _ _ _ _ _ x13 _ H13.out.1 H13.out.2.1 H13.out.2.2 n5' m5' (by omega) (by omega)).mono ?_
    rintro e w14 ⟨rfl, hb14⟩
    have t4 : ¬ mpos (1 + (n5 : Int)) x13 m5 < 0 := by omega
    have t5 : (mpos (1 + (n5 : Int)) x13 m5 != mpos (1 + (n5 : Int)) x13 m5) = false := by simp
    have V814 : Hid (DVar w14 w2.heap.size T2 wB.heap.size w2.heap.size a2 n2 c2 dX q2 m2 d2 v2) := V813.out.below hb14
    have K14 : Hid (PBox w14 w.heap.size a n ca p m cp) := K13.out.below hb14
    have HB14 : Hid (Below w1.heap.size w1 w14) := HB13.out.trans (hb14.mono HB13.out.size)
    obtain ⟨o9, o10, _, _⟩ := two_cells K14.out
    generalize mpos (1 + (n5 : Int)) x13 m5 = kk2 at *
    clear hb14 V813 K13 HB13 o7 o8 H13 bb
    go_wp2_with fail
    refine (toDisk_any _ _ _ _ _ _ xs ws _ (HA.out.below HB14.out) (HP.out.below HB14.out) n1 m1).mono ?_
    rintro e w15 ⟨T15, v15, g15, q15, rfl, hD15, e15, hb15⟩
    have V815 : Hid (DVar w15 w2.heap.size T2 wB.heap.size w2.heap.size a2 n2 c2 dX q2 m2 d2 v2) := V814.out.below hb15
    have HB15 : Hid (Below w1.heap.size w1 w15) := HB14.out.trans (hb15.mono HB14.out.size)
    have E15 : Hid (wVal v15 = wVal ws) := e15
    have D15 : Hid (IRow .u8 w15 (some ⟨g15, 0, none⟩) n xs ∧ PRead w15 (some ⟨q15, 0, none⟩) m v15) := ⟨hD15.dur.read, hD15.pend.read⟩
    clear e15 hD15 hb15 V814 HB14 K14 o9 o10
    go_wp2_with fail
    refine (toByteS_any _ _ _ X _ (HX.out.below HB15.out) l1).mono ?_
    rintro e w16 ⟨rfl, r16, hb16, hs16⟩
    have V816 : Hid (DVar w16 w2.heap.size T2 wB.heap.size w2.heap.size a2 n2 c2 dX q2 m2 d2 v2) := V815.out.below hb16
    have HB16 : Hid (Below w1.heap.size w1 w16) := HB15.out.trans (hb16.mono HB15.out.size)
    have D16 : Hid (IRow .u8 w16 (some ⟨g15, 0, none⟩) n xs ∧ PRead w16 (some ⟨q15, 0, none⟩) m v15) := ⟨D15.out.1.below hb16, D15.out.2.below hb16⟩
    have R16 : Hid (IRow .u8 w16 (some ⟨w15.heap.size, 0, none⟩) l X) := r16.read
    clear r16 hb16 hs16 V815 HB15 D15
    go_wp2_with fail
    refine (diskWrite_impl _ _ _ _ _ _ xs v15 b _ _ _ X _ D16.out.1 D16.out.2 R16.out (Nat.le_refl _) n1 m1 l1 hb).mono ?_
    rintro e w17 ⟨T17, v17, a17, n17, c17, q17, m17, d17, rfl, hD17, e17, _, hb17⟩
    rw [E15.out, HDX.out.2] at e17
    rw [E15.out, HDX.out.1] at hD17
    have V17 : DVar _ w17.heap.size T17 w16.heap.size w17.heap.size a17 n17 c17 _ q17 m17 d17 v17 := DVar.new hD17
    have n17' := hD17.dn
    have m17' := hD17.dm
    obtain ⟨W17, hW17⟩ : ∃ W17, w17.alloc (.cells #[.slice a17 n17 c17, .slice q17 m17 d17] 30) = W17 := ⟨_, rfl⟩
    rw [hW17] at V17
    have bW17 : Below w17.heap.size w17 W17 := by rw [← hW17]; exact (Below.refl _ w17).alloc (Nat.le_refl _) _
    have b167 : Below w16.heap.size w16 W17 := hb17.trans (bW17.mono hb17.size)
    have E17 : Hid (wVal v17 = dW) := e17
    have V817 : Hid (DVar W17 w2.heap.size T2 wB.heap.size w2.heap.size a2 n2 c2 dX q2 m2 d2 v2) := V816.out.below b167
    have V1717 : Hid (DVar W17 w17.heap.size T17 w16.heap.size w17.heap.size a17 n17 c17 dX q17 m17 d17 v17) := V17
    have HB17 : Hid (Below w1.heap.size w1 W17) := HB16.out.trans (b167.mono HB16.out.size)
    obtain ⟨o1, o2, _, _⟩ := two_cells V817.out.box
    obtain ⟨o3, o4, _, _⟩ := two_cells V1717.out.box
    clear hD17 e17 hb17 V17 bW17 b167 V816 HB16 D16 R16
    go_wp2_with fail
    try rw [hW17]
    clear hW17
    refine (eqDisk_any _ _ _ _ _ _ _ _ _ _ _ _ dX dX v17 v2 _ V1717.out.own.dur.read V817.out.own.dur.read V1717.out.own.pend.read V817.out.own.pend.read n17' n2' m17' m2').mono ?_
    rintro e w18 ⟨rfl, hb18⟩
    rw [show decide (dX = dX ∧ wVal v17 = wVal v2) = true from by simp [E17.out, E2.out]]
    have HB18 : Hid (Below w1.heap.size w1 w18) := HB17.out.trans (hb18.mono HB17.out.size)
    clear hb18 HB17 V817 V1717 o1 o2 o3 o4
    go_wp2
    go_ret
    exact ⟨rfl, hbel.trans (HB18.out.mono hbel.size)⟩
end Go.Proofs.Ytkkammbfomiofab
