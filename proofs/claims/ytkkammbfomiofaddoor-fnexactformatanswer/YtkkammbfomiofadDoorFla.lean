/-
  FnExactFormatAnswer: the law's helpers.
-/
import Derived.Test.YtkkammbfomiofadDoorFfs
namespace Go.Proofs.YtkkammbfomiofadDoor
open Go.RowKit
set_option linter.unusedSimpArgs false
set_option linter.unusedVariables false

set_option maxHeartbeats 1000000 in
theorem szCall_any (kind size : Int) (nm cd : ByteArray) (l : Int) (w : World) (h1 : nm.size ≤ 9223372036854775807) (h2 : cd.size ≤ 9223372036854775807) (l0 : 0 ≤ l) (l1 : l ≤ 1048576) :
    Calls Tryd.prog 4 #[.agg #[.int .i64 kind, .string nm, .string cd, .int .i64 size], .int .i64 l] w fun e w' => ∃ r : Int, e = .returned (.int .i64 r) ∧ -1 ≤ r ∧ r ≤ 1048576 ∧ Below w.heap.size w w' := by
  have hb := fun o : Obj => (Below.refl w.heap.size w).alloc (Nat.le_refl _) o
  by_cases c1 : l - (nm.size : Int) < 0
  · go_enter Tryd.func4, Tryd.ntmps4
    go_wp2
    go_ret
    exact ⟨-1, rfl, by omega, by omega, hb _⟩
  by_cases c2 : l - (nm.size : Int) - (cd.size : Int) < 0
  · go_enter Tryd.func4, Tryd.ntmps4
    go_wp2
    go_ret
    exact ⟨-1, rfl, by omega, by omega, hb _⟩
  · go_enter Tryd.func4, Tryd.ntmps4
    go_wp2
    go_ret
    exact ⟨_, rfl, by omega, by omega, hb _⟩

set_option maxHeartbeats 1000000 in
theorem toCall_any (kind size : Int) (nm cd : ByteArray) (w : World) :
    Calls Tryd.prog 7 #[.agg #[.int .i64 kind, .string nm, .string cd, .int .i64 size]] w fun e w' => e = .returned (.agg #[.int .i64 kind, .string nm, .string cd, .int .i64 size]) ∧ Below w.heap.size w w' := by
  go_enter Tryd.func7, Tryd.ntmps7
  go_wp2
  refine bodyPost_ret (v := .agg #[.int .i64 kind, .string nm, .string cd, .int .i64 size]) (by simp [results, Tryd.results7, go_sem]) rfl ?_
  exact ⟨rfl, (((Below.refl w.heap.size w).alloc (Nat.le_refl _) _).alloc (by simp) _).alloc (by simp; omega) _⟩
set_option maxHeartbeats 1000000 in
theorem toStat_any (s0 s1 s2 s3 s4 : Int) (w : World) :
    Calls Tryd.prog 15 #[.agg #[.int .i64 s0, .int .i64 s1, .int .i64 s2, .int .i64 s3, .int .i64 s4]] w fun e w' => e = .returned (.agg #[.int .i64 s0, .int .i64 s1, .int .i64 s2, .int .i64 s3, .int .i64 s4]) ∧ Below w.heap.size w w' := by
  go_enter Tryd.func15, Tryd.ntmps15
  go_wp2
  refine bodyPost_ret (v := .agg #[.int .i64 s0, .int .i64 s1, .int .i64 s2, .int .i64 s3, .int .i64 s4]) (by simp [results, Tryd.results15, go_sem]) rfl ?_
  exact ⟨rfl, (((Below.refl w.heap.size w).alloc (Nat.le_refl _) _).alloc (by simp) _).alloc (by simp; omega) _⟩
set_option maxHeartbeats 1000000 in
theorem eqStat_same (s0 s1 s2 s3 s4 : Int) (w : World) :
    Calls Tryd.prog 20 #[.agg #[.int .i64 s0, .int .i64 s1, .int .i64 s2, .int .i64 s3, .int .i64 s4], .agg #[.int .i64 s0, .int .i64 s1, .int .i64 s2, .int .i64 s3, .int .i64 s4]] w fun e w' => e = .returned (.bool true) ∧ Below w.heap.size w w' := by
  have e0 : (s0 != s0) = false := by simp
  have e1 : (s1 != s1) = false := by simp
  have e2 : (s2 != s2) = false := by simp
  have e3 : (s3 != s3) = false := by simp
  have e4 : (s4 != s4) = false := by simp
  go_enter Tryd.func20, Tryd.ntmps20
  go_wp2
  go_ret
  exact ⟨rfl, ((Below.refl w.heap.size w).alloc (Nat.le_refl _) _).alloc (by simp) _⟩

set_option maxHeartbeats 1000000 in
theorem szAnswer_any (code num s0 s1 s2 s3 s4 : Int) (d : ByteArray) (a : Option Addr) (n ca : Nat) (ss : List ByteArray) (l : Int) (w : World) (ha : SRow w a n ss) (hz : ∀ i, i < n → (sAt ss i).size ≤ 9223372036854775807) (hn : (n : Int) ≤ 9223372036854775807) (hd : d.size ≤ 9223372036854775807) (l0 : 0 ≤ l) (l1 : l ≤ 1048576) :
    Calls Tryd.prog 5 #[.agg #[.int .i64 code, .string d, .slice a n ca, .int .i64 num, .int .i64 s0, .int .i64 s1, .int .i64 s2, .int .i64 s3, .int .i64 s4], .int .i64 l] w fun e w' => ∃ r : Int, e = .returned (.int .i64 r) ∧ (0 ≤ r → d.size ≤ 1048576 ∧ n + totS ss ≤ 1048576) ∧ Below w.heap.size w w' := by
  have hb := fun o : Obj => (Below.refl w.heap.size w).alloc (Nat.le_refl _) o
  have HA := Lib.hid ha
  have HZ := Lib.hid hz
  clear ha hz
  by_cases c1 : l - (d.size : Int) < 0
  · go_enter Tryd.func5, Tryd.ntmps5
    go_wp2
    go_ret
    exact ⟨-1, rfl, fun h => by omega, hb _⟩
  · go_enter Tryd.func5, Tryd.ntmps5
    go_wp2_with fail
    refine (szStringS_any a n ca ss _ _ (HA.out.below (hb _)) HZ.out hn (by omega) (by omega)).mono ?_
    rintro e w1 ⟨r, rfl, hr, hr0, hr1, hw⟩
    have hw := hw.symm
    subst hw
    have HR := Lib.hid hr
    clear hr
    by_cases c2 : r < 0
    · go_wp2
      go_ret
      exact ⟨-1, rfl, fun h => by omega, hb _⟩
    · go_wp2
      go_ret
      exact ⟨r, rfl, fun h => by have := HR.out h; omega, hb _⟩

theorem nine_of {W : World} {r : Nat} {x0 x1 x2 x3 x4 x5 x6 x7 x8 : Value} {t : TypeId} (h : W.heap[r]? = some (.cells #[x0, x1, x2, x3, x4, x5, x6, x7, x8] t (0, 0))) :
    (W.cell? ⟨r, 0, none⟩ = some x0 ∧ W.cell? ⟨r, 1, none⟩ = some x1 ∧ W.cell? ⟨r, 2, none⟩ = some x2 ∧ W.cell? ⟨r, 3, none⟩ = some x3 ∧ W.cell? ⟨r, 4, none⟩ = some x4 ∧ W.cell? ⟨r, 5, none⟩ = some x5 ∧ W.cell? ⟨r, 6, none⟩ = some x6 ∧ W.cell? ⟨r, 7, none⟩ = some x7 ∧ W.cell? ⟨r, 8, none⟩ = some x8) ∧ W.frozen? ⟨r, 0, none⟩ = false ∧ W.frozen? ⟨r, 1, none⟩ = false ∧ W.frozen? ⟨r, 2, none⟩ = false ∧ W.frozen? ⟨r, 3, none⟩ = false ∧ W.frozen? ⟨r, 4, none⟩ = false ∧ W.frozen? ⟨r, 5, none⟩ = false ∧ W.frozen? ⟨r, 6, none⟩ = false ∧ W.frozen? ⟨r, 7, none⟩ = false ∧ W.frozen? ⟨r, 8, none⟩ = false := by
  refine ⟨⟨?_, ?_, ?_, ?_, ?_, ?_, ?_, ?_, ?_⟩, ?_, ?_, ?_, ?_, ?_, ?_, ?_, ?_, ?_⟩
  all_goals first | (rw [cell_of_row W r _ _ _ _ h]; rfl) | (simp [World.frozen?, h])
theorem set_other {W : World} {p : Addr} {v : Value} {j : Nat} (h : p.block ≠ j) : (W.setCell p v).heap[j]? = W.heap[j]? := Below.heap_setCell _ _ _ _ h.symm
theorem SHead.kept {w w' : World} {G : Nat → Prop} {g n : Nat} {ss : List ByteArray} (h : SHead w g n ss) (hk : Kept G w w') (hg : ¬ G g) : SHead w' g n ss :=
  ⟨h.1, fun i hi => by
    have h1 := h.2 i hi
    have := hk.block g (World.block_lt_of_cell? w _ h1) hg
    rw [← h1]
    exact World.cell?_of_block this⟩
theorem set_kept {W W' : World} {G : Nat → Prop} (h : Kept G W W') (p : Addr) (v : Value) (hp : G p.block) : Kept G W (W'.setCell p v) := h.trans (Kept.setCell W' p v G hp)
theorem fin_ans {w w3 Wf : World} {n : Nat} {ss : List ByteArray} {V : Nat → Value} {e : Ending} (hs : SHead w3 (w.heap.size + 1 + 1 + 1) n ss) (hb : Below w.heap.size w w3) (hz : w.heap.size + 1 + 1 + 1 < w3.heap.size) (hk : Kept (fun j => j = w.heap.size + 1 ∨ j = w.heap.size + 1 + 1) w3 Wf) (he : e = .returned (V (w.heap.size + 1 + 1 + 1))) :
    ∃ g, e = .returned (V g) ∧ SHead Wf g n ss ∧ g < Wf.heap.size ∧ Below w.heap.size w Wf :=
  ⟨_, he, hs.kept hk (by omega), Nat.lt_of_lt_of_le hz hk.size, hb.trans (hk.below hb.size (fun g hg => by omega))⟩
theorem three_blocks (w : World) (o o' o'' : Obj) : (((w.alloc o).alloc o').alloc o'').heap[w.heap.size]? = some o ∧ (((w.alloc o).alloc o').alloc o'').heap[w.heap.size + 1]? = some o' ∧ (((w.alloc o).alloc o').alloc o'').heap[w.heap.size + 1 + 1]? = some o'' ∧ (((w.alloc o).alloc o').alloc o'').heap.size = w.heap.size + 1 + 1 + 1 := by
  refine ⟨?_, ?_, ?_, by simp⟩
  · exact ((heap_alloc_old _ _ (by simp; omega)).trans (heap_alloc_old _ _ (by simp))).trans (heap_alloc_new w o)
  · exact (heap_alloc_old _ _ (by simp)).trans (by have := heap_alloc_new (w.alloc o) o'; simpa using this)
  · have := heap_alloc_new ((w.alloc o).alloc o') o''
    simpa using this

set_option maxHeartbeats 8000000 in
set_option maxRecDepth 100000 in
theorem toAnswer_any (code num s0 s1 s2 s3 s4 : Int) (d : ByteArray) (a : Option Addr) (n ca : Nat) (ss : List ByteArray) (w : World) (ha : SRow w a n ss) (hn : n ≤ 1048576) :
    Calls Tryd.prog 8 #[.agg #[.int .i64 code, .string d, .slice a n ca, .int .i64 num, .int .i64 s0, .int .i64 s1, .int .i64 s2, .int .i64 s3, .int .i64 s4]] w fun e w' => ∃ g, e = .returned (.agg #[.int .i64 code, .string d, .slice (some ⟨g, 0, none⟩) n n, .int .i64 num, .int .i64 s0, .int .i64 s1, .int .i64 s2, .int .i64 s3, .int .i64 s4]) ∧ SHead w' g n ss ∧ g < w'.heap.size ∧ Below w.heap.size w w' := by
  have hb3 : ∀ o o' o'' : Obj, Below w.heap.size w (((w.alloc o).alloc o').alloc o'') := fun o o' o'' => (((Below.refl w.heap.size w).alloc (Nat.le_refl _) o).alloc (by simp) o').alloc (by simp; omega) o''
  have HA := Lib.hid ha
  clear ha
  go_enter Tryd.func8, Tryd.ntmps8
  go_wp2_with fail
  refine (toStringS_any a n ca ss _ (HA.out.below (hb3 _ _ _)) (by omega)).mono ?_
  obtain ⟨b0, b1, b2, b3⟩ := three_blocks w (.cells #[.int .i64 code, .string d, .slice a n ca, .int .i64 num, .int .i64 s0, .int .i64 s1, .int .i64 s2, .int .i64 s3, .int .i64 s4] 28) (.cells #[.int .i64 0, .string ⟨#[]⟩, .slice none 0 0, .int .i64 0, .int .i64 0, .int .i64 0, .int .i64 0, .int .i64 0, .int .i64 0] 36) (.cells #[.int .i64 code, .string d, .slice none 0 0, .int .i64 0, .int .i64 0, .int .i64 0, .int .i64 0, .int .i64 0, .int .i64 0] 36)
  rw [b3]
  rintro e w1 ⟨rfl, sh1, hb1, z1⟩
  have kP := (hb1.block w.heap.size (by omega)).trans b0
  have kR := (hb1.block (w.heap.size + 1) (by omega)).trans b1
  have kO := (hb1.block (w.heap.size + 1 + 1) (by omega)).trans b2
  have HB1 : Hid (Below w.heap.size w w1) := (hb3 _ _ _).trans (hb1.mono (by omega))
  have HS1 := Lib.hid sh1
  have P9 := nine_of kP
  have O9 := nine_of kO
  obtain ⟨⟨p0, p1, p2, p3, p4, p5, p6, p7, p8⟩, _, _, _, _, _, _, _, _, _⟩ := P9
  obtain ⟨⟨o0, o1, o2, o3, o4, o5, o6, o7, o8⟩, f0, f1, f2, f3, f4, f5, f6, f7, f8⟩ := O9
  have n1 : ¬ w.heap.size + 1 + 1 = w.heap.size := by omega
  have n2 : ¬ w.heap.size = w.heap.size + 1 + 1 := by omega
  clear hb1 sh1 b0 b1 b2 b3
  go_wp2_with fail
  have kR2 : ((w1.setCell ⟨w.heap.size + 1 + 1, 2, none⟩ (.slice (some ⟨w.heap.size + 1 + 1 + 1, 0, none⟩) n n)).setCell ⟨w.heap.size + 1 + 1, 3, none⟩ (.int .i64 num)).heap[w.heap.size + 1]? = _ := ((set_other (by simp)).trans (set_other (by simp))).trans kR
  have kO2 : ((w1.setCell ⟨w.heap.size + 1 + 1, 2, none⟩ (.slice (some ⟨w.heap.size + 1 + 1 + 1, 0, none⟩) n n)).setCell ⟨w.heap.size + 1 + 1, 3, none⟩ (.int .i64 num)).heap[w.heap.size + 1 + 1]? = some (.cells #[.int .i64 code, .string d, .slice (some ⟨w.heap.size + 1 + 1 + 1, 0, none⟩) n n, .int .i64 num, .int .i64 0, .int .i64 0, .int .i64 0, .int .i64 0, .int .i64 0] 36 (0, 0)) := by simp [World.setCell, Array.getElem?_modify, kO]
  have hk2 : Kept (fun j => j = w.heap.size + 1 + 1) w1 ((w1.setCell ⟨w.heap.size + 1 + 1, 2, none⟩ (.slice (some ⟨w.heap.size + 1 + 1 + 1, 0, none⟩) n n)).setCell ⟨w.heap.size + 1 + 1, 3, none⟩ (.int .i64 num)) := (Kept.setCell w1 ⟨w.heap.size + 1 + 1, 2, none⟩ _ (fun j => j = w.heap.size + 1 + 1) rfl).trans (Kept.setCell _ ⟨w.heap.size + 1 + 1, 3, none⟩ _ _ rfl)
  have HS2 : Hid (SHead ((w1.setCell ⟨w.heap.size + 1 + 1, 2, none⟩ (.slice (some ⟨w.heap.size + 1 + 1 + 1, 0, none⟩) n n)).setCell ⟨w.heap.size + 1 + 1, 3, none⟩ (.int .i64 num)) (w.heap.size + 1 + 1 + 1) n ss) := HS1.out.kept hk2 (by omega)
  have HB2 : Hid (Below w.heap.size w ((w1.setCell ⟨w.heap.size + 1 + 1, 2, none⟩ (.slice (some ⟨w.heap.size + 1 + 1 + 1, 0, none⟩) n n)).setCell ⟨w.heap.size + 1 + 1, 3, none⟩ (.int .i64 num))) := HB1.out.trans (hk2.below HB1.out.size (fun g hg => by omega))
  have z2 : w.heap.size + 1 + 1 + 1 < ((w1.setCell ⟨w.heap.size + 1 + 1, 2, none⟩ (.slice (some ⟨w.heap.size + 1 + 1 + 1, 0, none⟩) n n)).setCell ⟨w.heap.size + 1 + 1, 3, none⟩ (.int .i64 num)).heap.size := by simpa [World.setCell] using z1
  clear kP kR kO p0 p1 p2 p3 p4 p5 p6 p7 p8 o0 o1 o2 o3 o4 o5 o6 o7 o8 f0 f1 f2 f3 f4 f5 f6 f7 f8 hk2 HS1 HB1
  generalize ((w1.setCell ⟨w.heap.size + 1 + 1, 2, none⟩ (.slice (some ⟨w.heap.size + 1 + 1 + 1, 0, none⟩) n n)).setCell ⟨w.heap.size + 1 + 1, 3, none⟩ (.int .i64 num)) = W2 at *
  refine (toStat_any s0 s1 s2 s3 s4 _).mono ?_
  rintro e w3 ⟨rfl, hb3'⟩
  have kR3 := (hb3'.block (w.heap.size + 1) (by omega)).trans kR2
  have kO3 := (hb3'.block (w.heap.size + 1 + 1) (by omega)).trans kO2
  have HS3 := Lib.hid (HS2.out.below hb3')
  have HB3 : Hid (Below w.heap.size w w3) := HB2.out.trans (hb3'.mono HB2.out.size)
  have z3 : w.heap.size + 1 + 1 + 1 < w3.heap.size := Nat.lt_of_lt_of_le z2 hb3'.size
  obtain ⟨⟨p0, p1, p2, p3, p4, p5, p6, p7, p8⟩, q0, q1, q2, q3, q4, q5, q6, q7, q8⟩ := nine_of kR3
  obtain ⟨⟨o0, o1, o2, o3, o4, o5, o6, o7, o8⟩, f0, f1, f2, f3, f4, f5, f6, f7, f8⟩ := nine_of kO3
  have n3 : ¬ w.heap.size + 1 + 1 = w.heap.size + 1 := by omega
  have n4 : ¬ w.heap.size + 1 = w.heap.size + 1 + 1 := by omega
  clear hb3' kR2 kO2 kR3 kO3
  go_wp2
  refine bodyPost_ret (v := .agg #[.int .i64 code, .string d, .slice (some ⟨w.heap.size + 1 + 1 + 1, 0, none⟩) n n, .int .i64 num, .int .i64 s0, .int .i64 s1, .int .i64 s2, .int .i64 s3, .int .i64 s4]) (by simp [results, Tryd.results8, go_sem, p0, p1, p2, p3, p4, p5, p6, p7, p8]) rfl ?_
  refine fin_ans HS3.out HB3.out z3 ?_ rfl
  repeat refine set_kept ?_ _ _ (by simp)
  exact ⟨rfl, rfl, rfl, Nat.le_refl _, fun _ _ _ => rfl⟩

set_option maxHeartbeats 4000000 in
set_option maxRecDepth 100000 in
theorem eqAnswer_same (code num s0 s1 s2 s3 s4 : Int) (d : ByteArray) (g g' n ca cb : Nat) (ss : List ByteArray) (w : World) (ha : SHead w g n ss) (hb : SHead w g' n ss) (hn : n ≤ 1048576) :
    Calls Tryd.prog 10 #[.agg #[.int .i64 code, .string d, .slice (some ⟨g, 0, none⟩) n ca, .int .i64 num, .int .i64 s0, .int .i64 s1, .int .i64 s2, .int .i64 s3, .int .i64 s4], .agg #[.int .i64 code, .string d, .slice (some ⟨g', 0, none⟩) n cb, .int .i64 num, .int .i64 s0, .int .i64 s1, .int .i64 s2, .int .i64 s3, .int .i64 s4]] w fun e w' => e = .returned (.bool true) ∧ Below w.heap.size w w' := by
  have hb2 : ∀ o o' : Obj, Below w.heap.size w ((w.alloc o).alloc o') := fun o o' => ((Below.refl _ w).alloc (Nat.le_refl _) o).alloc (by simp) o'
  have HA := Lib.hid ha
  have HB := Lib.hid hb
  have e0 : (code != code) = false := by simp
  have e1 : (num != num) = false := by simp
  have e2 : (d.toList != d.toList) = false := by simp
  clear ha hb
  go_enter Tryd.func10, Tryd.ntmps10
  go_wp2_with fail
  refine (eqStringS_same g g' n ca cb ss _ (HA.out.below (hb2 _ _)) (HB.out.below (hb2 _ _)) (by omega)).mono ?_
  rintro e w1 ⟨rfl, dd, rfl⟩
  go_wp2_with fail
  refine (eqStat_same s0 s1 s2 s3 s4 _).mono ?_
  rintro e w2 ⟨rfl, hb3⟩
  have HB3 : Hid (Below w.heap.size w w2) := (below_drewN (hb2 _ _) dd).trans (hb3.mono (by simp; omega))
  clear hb3
  go_wp2
  go_ret
  exact ⟨rfl, HB3.out⟩
end Go.Proofs.YtkkammbfomiofadDoor
