/-
  Sqa, Sqb.
-/
import Derived.Test.YtonpdbajoidigaaGreatDoorGu
/-
  FnSpace: the answers to reads, writes, deletes.
-/
namespace Go.Proofs.YtonpdbajoidigaaGreatDoor
open Go.RowKit
set_option linter.unusedSimpArgs false
set_option linter.unusedVariables false

set_option maxRecDepth 100000 in
set_option maxHeartbeats 4000000 in
theorem dataOf_any (B E C nb M : Nat) (s b : Int) (W Dm gt tc n : Nat) (es : List (Int × Bool)) (q a u o : Int) (hs : List Value) (rd : Int → List Int) (fs : List FR) (nm nm' dt : ByteArray) (lid : Int) (gl m cl : Nat) (ls : List Int) (w : World)
    (hE : EngAt w E C s b W Dm (.slice (some ⟨gt, 0, none⟩) n tc) q a u o hs) (hD : DS B w C nb M 256 rd) (hT : TAt B w gt tc n es) (hM : MF w W fs) (hlk : lookF nm fs = some ⟨nm', lid, (dt.size : Int), some ⟨gl, 0, none⟩, m, cl⟩) (hn : n ≤ 4096) (hr : LRow w gl m ls) (hm : m ≤ 22) (hdt : dt.size = 64 * m) (hl : ∀ x ∈ ls, 1 ≤ x ∧ x ≤ (n : Int)) (hnb : nb ≤ 4096)
    (hx : ∀ j, j < m → 0 ≤ eA es (lidK ls j) ∧ eA es (lidK ls j) < (nb : Int) ∧ rd (eA es (lidK ls j)) = chB dt j) :
    Calls Tryz.prog 48 #[.pointer (some ⟨E, 0, none⟩), .string nm] w fun e w' => e = .returned (.string dt) ∧ Below w.heap.size w w' := by
  have c8 := hE.c8
  have c0 := hE.c0
  have c10 := hE.c10
  have hlE := hE.lt
  have HFN : Hid (Calls Tryz.prog 84 #[.agg #[.map (some W)], .string nm] w fun e w' => e = .returned (.tuple #[.agg #[.int .i64 lid, .string nm', .int .i64 (dt.size : Int), .slice (some ⟨gl, 0, none⟩) m cl], .bool true]) ∧ Below w.heap.size w w') := (findF_any W fs nm _ w hM hlk).mono fun e w' h => h
  have HRD : Hid (∀ V, Below w.heap.size w V → Calls Tryz.prog 85 #[.pointer (some ⟨C, 0, none⟩), .slice (some ⟨gt, 0, none⟩) n tc, .agg #[.string nm', .int .i64 (dt.size : Int), .slice (some ⟨gl, 0, none⟩) m cl]] V fun e w' => e = .returned (.string dt) ∧ Below w.heap.size w w') := fun V hV => (readData_any B C nb M rd gt tc n es nm' dt gl m cl ls V (hD.kd (S := fun _ => False) hV) (hT.kd (S := fun _ => False) (Kd.of_below hV) id) hn (hr.below hV) hm hdt hl hnb hx).mono fun e w' ⟨h1, h2⟩ => ⟨h1, hV.trans (h2.mono hV.size)⟩
  clear hE hD hT hM hlk hr hdt hl hx
  go_enter Tryz.func48, Tryz.ntmps48
  go_wp2_with fail
  refine HFN.out.mono ?_
  rintro e w1 ⟨rfl, hb1⟩
  have HB1 := Lib.hid hb1
  have l1 := hb1.size
  have c0b : w1.cell? ⟨E, 0, none⟩ = some (.pointer (some ⟨C, 0, none⟩)) := (hb1.cell hlE).trans c0
  have c10b : w1.cell? ⟨E, 10, none⟩ = some (.slice (some ⟨gt, 0, none⟩) n tc) := (hb1.cell hlE).trans c10
  have hlE1 : E < w1.heap.size := by omega
  clear hb1 HFN
  go_wp2_with fail
  go_region_law (first
    | (go_simp; go_at_call 85; refine (HRD.out _ (by have hb := HB1.out; repeat' (first | with_reducible refine Below.setCell ?_ ?_ _ | with_reducible refine Below.alloc ?_ ?_ _ | with_reducible refine Below.drew ?_ | with_reducible refine below_drewN ?_ _ | with_reducible assumption | with_reducible exact Below.refl _ _ | (simp; done) | (simp; omega) | omega))).mono ?_; rintro e w3 ⟨rfl, hb3⟩; have HB3 := Lib.hid hb3; clear hb3))
  all_goals
    go_wp2
    go_ret
    exact ⟨rfl, HB3.out⟩
theorem two_world {w : World} {k : Int} {nm dt : ByteArray} {W1 : World} (hW1 : (w.alloc (.cells #[.int .i64 k, .string nm, .string dt, .int .i64 0] 29)).alloc (.cells #[.int .i64 0, .string ⟨#[]⟩, .slice none 0 0, .int .i64 0, .int .i64 0, .int .i64 0, .int .i64 0, .int .i64 0, .int .i64 0] 42) = W1) :
    Below w.heap.size w W1 ∧ W1.heap[w.heap.size + 1]? = some (.cells #[.int .i64 0, .string ⟨#[]⟩, .slice none 0 0, .int .i64 0, .int .i64 0, .int .i64 0, .int .i64 0, .int .i64 0, .int .i64 0] 42 (0, 0)) ∧ W1.heap[w.heap.size]? = some (.cells #[.int .i64 k, .string nm, .string dt, .int .i64 0] 29 (0, 0)) := by
  have e : (w.alloc (.cells #[.int .i64 k, .string nm, .string dt, .int .i64 0] 29)).heap.size = w.heap.size + 1 := by simp
  refine ⟨by rw [← hW1]; exact ((Below.refl _ _).alloc (Nat.le_refl _) _).alloc (by simp) _, ?_, ?_⟩
  · rw [← hW1, ← e]
    exact heap_alloc_new _ _
  · rw [← hW1]
    exact (heap_alloc_oldC _ _ _ (by simp)).trans (heap_alloc_new w _)
set_option maxRecDepth 100000 in
set_option maxHeartbeats 4000000 in
theorem answerRead_any (E : Nat) (k : Int) (nm cd dt : ByteArray) (w : World) (h : ∀ V, Below w.heap.size w V → Calls Tryz.prog 48 #[.pointer (some ⟨E, 0, none⟩), .string nm] V fun e w' => e = .returned (.string dt) ∧ Below V.heap.size V w') :
    Calls Tryz.prog 22 #[.pointer (some ⟨E, 0, none⟩), .agg (callV k nm cd)] w fun e w' => e = .returned (.agg (ansV 0 dt)) ∧ Below w.heap.size w w' := by
  obtain ⟨W1, hW1⟩ : ∃ W1, (w.alloc (.cells #[.int .i64 k, .string nm, .string cd, .int .i64 0] 29)).alloc (.cells #[.int .i64 0, .string ⟨#[]⟩, .slice none 0 0, .int .i64 0, .int .i64 0, .int .i64 0, .int .i64 0, .int .i64 0, .int .i64 0] 42) = W1 := ⟨_, rfl⟩
  obtain ⟨hb, k1, k0⟩ := two_world hW1
  have HD := Lib.hid (h W1 hb)
  obtain ⟨⟨y0, y1, y2, y3⟩, _⟩ := four_ofF k0
  have l1 : w.heap.size + 1 < W1.heap.size := (Array.getElem?_eq_some_iff.1 k1).1
  have HK := Lib.hid k1
  have HB := Lib.hid hb
  clear h k0 k1 hb
  unfold callV
  go_enter Tryz.func22, Tryz.ntmps22
  go_wp2_with fail
  refine HD.out.mono ?_
  rintro e w2 ⟨rfl, hb2⟩
  have k2 := (hb2.block _ l1).trans HK.out
  obtain ⟨⟨x0, x1, x2, x3, x4, x5, x6, x7, x8⟩, xf⟩ := nine_of k2
  have hl5 : w.heap.size + 1 < w2.heap.size := (Array.getElem?_eq_some_iff.1 k2).1
  have xf0 := xf 0
  have xf1 := xf 1
  have xf2 := xf 2
  have xf3 := xf 3
  have xf4 := xf 4
  have xf5 := xf 5
  have xf6 := xf 6
  have xf7 := xf 7
  have xf8 := xf 8
  have HB2 : Hid (Below w.heap.size w w2) := HB.out.trans (hb2.mono HB.out.size)
  clear k2 xf hb2 HD
  go_wp2
  refine bodyPost_ret (v := .agg (ansV 0 dt)) (by simp [results, Tryz.results22, go_sem, ansV, x0, x1, x2, x3, x4, x5, x6, x7, x8]) rfl ?_
  refine ⟨rfl, ?_⟩
  have hb := HB2.out
  repeat' (first | with_reducible refine Below.setCell ?_ ?_ _ | with_reducible assumption | exact Nat.le_succ _)
set_option maxRecDepth 100000 in
set_option maxHeartbeats 4000000 in
theorem answerWrite_any (E : Nat) (k : Int) (nm cd : ByteArray) (w : World) (Q : World → World → Prop) (h : ∀ V, Below w.heap.size w V → Calls Tryz.prog 47 #[.pointer (some ⟨E, 0, none⟩), .string nm, .string cd] V fun e w' => (∃ v, e = .returned v) ∧ Q V w')
    (hk : ∀ V w' : World, Q V w' → ∀ (p : Nat) (c : Array Value) (t : TypeId), V.heap[p]? = some (.cells c t (0, 0)) → t = 42 → w'.heap[p]? = some (.cells c t (0, 0))) :
    Calls Tryz.prog 21 #[.pointer (some ⟨E, 0, none⟩), .agg (callV k nm cd)] w fun e w' => e = .returned (.agg (ansV 0 ⟨#[]⟩)) ∧ ∃ V V' N c, Below w.heap.size w V ∧ Q V V' ∧ w.heap.size ≤ N ∧ V'.heap[N]? = some (.cells c 42 (0, 0)) ∧ Kept (fun g => g = N) V' w' := by
  obtain ⟨W1, hW1⟩ : ∃ W1, (w.alloc (.cells #[.int .i64 k, .string nm, .string cd, .int .i64 0] 29)).alloc (.cells #[.int .i64 0, .string ⟨#[]⟩, .slice none 0 0, .int .i64 0, .int .i64 0, .int .i64 0, .int .i64 0, .int .i64 0, .int .i64 0] 42) = W1 := ⟨_, rfl⟩
  obtain ⟨hb, k1, k0⟩ := two_world hW1
  have HD := Lib.hid (h W1 hb)
  obtain ⟨⟨y0, y1, y2, y3⟩, _⟩ := four_ofF k0
  have HK := Lib.hid k1
  have HKK := Lib.hid hk
  have HB := Lib.hid hb
  clear h k0 k1 hb hk
  unfold callV
  go_enter Tryz.func21, Tryz.ntmps21
  go_wp2_with fail
  refine HD.out.mono ?_
  rintro e w2 ⟨⟨v, rfl⟩, hq⟩
  have k2 := HKK.out W1 w2 hq _ _ _ HK.out rfl
  obtain ⟨⟨x0, x1, x2, x3, x4, x5, x6, x7, x8⟩, xf⟩ := nine_of k2
  have hl5 : w.heap.size + 1 < w2.heap.size := (Array.getElem?_eq_some_iff.1 k2).1
  have xf0 := xf 0
  have xf1 := xf 1
  have xf2 := xf 2
  have xf3 := xf 3
  have xf4 := xf 4
  have xf5 := xf 5
  have xf6 := xf 6
  have xf7 := xf 7
  have xf8 := xf 8
  have HF := Lib.hid (And.intro hq k2)
  clear k2 xf hq HD HKK HK
  go_wp2
  refine bodyPost_ret (v := .agg (ansV 0 ⟨#[]⟩)) (by simp [results, Tryz.results21, go_sem, ansV, x0, x1, x2, x3, x4, x5, x6, x7, x8]) rfl ?_
  refine ⟨rfl, W1, w2, w.heap.size + 1, _, HB.out, HF.out.1, by omega, HF.out.2, ?_⟩
  repeat' (first | with_reducible exact Kept.refl _ _ | with_reducible refine Kept.trans ?_ (Kept.setCell _ ⟨_, _, none⟩ _ (fun g => g = w.heap.size + 1) rfl))
set_option maxRecDepth 100000 in
set_option maxHeartbeats 4000000 in
theorem answerDelete_any (E : Nat) (k : Int) (nm cd : ByteArray) (w : World) (Q : World → World → Prop) (h : ∀ V, Below w.heap.size w V → Calls Tryz.prog 50 #[.pointer (some ⟨E, 0, none⟩), .string nm] V fun e w' => (∃ v, e = .returned v) ∧ Q V w')
    (hk : ∀ V w' : World, Q V w' → ∀ (p : Nat) (c : Array Value) (t : TypeId), V.heap[p]? = some (.cells c t (0, 0)) → t = 42 → w'.heap[p]? = some (.cells c t (0, 0))) :
    Calls Tryz.prog 24 #[.pointer (some ⟨E, 0, none⟩), .agg (callV k nm cd)] w fun e w' => e = .returned (.agg (ansV 0 ⟨#[]⟩)) ∧ ∃ V V' N c, Below w.heap.size w V ∧ Q V V' ∧ w.heap.size ≤ N ∧ V'.heap[N]? = some (.cells c 42 (0, 0)) ∧ Kept (fun g => g = N) V' w' := by
  obtain ⟨W1, hW1⟩ : ∃ W1, (w.alloc (.cells #[.int .i64 k, .string nm, .string cd, .int .i64 0] 29)).alloc (.cells #[.int .i64 0, .string ⟨#[]⟩, .slice none 0 0, .int .i64 0, .int .i64 0, .int .i64 0, .int .i64 0, .int .i64 0, .int .i64 0] 42) = W1 := ⟨_, rfl⟩
  obtain ⟨hb, k1, k0⟩ := two_world hW1
  have HD := Lib.hid (h W1 hb)
  obtain ⟨⟨y0, y1, y2, y3⟩, _⟩ := four_ofF k0
  have HK := Lib.hid k1
  have HKK := Lib.hid hk
  have HB := Lib.hid hb
  clear h k0 k1 hb hk
  unfold callV
  go_enter Tryz.func24, Tryz.ntmps24
  go_wp2_with fail
  refine HD.out.mono ?_
  rintro e w2 ⟨⟨v, rfl⟩, hq⟩
  have k2 := HKK.out W1 w2 hq _ _ _ HK.out rfl
  obtain ⟨⟨x0, x1, x2, x3, x4, x5, x6, x7, x8⟩, xf⟩ := nine_of k2
  have hl5 : w.heap.size + 1 < w2.heap.size := (Array.getElem?_eq_some_iff.1 k2).1
  have xf0 := xf 0
  have xf1 := xf 1
  have xf2 := xf 2
  have xf3 := xf 3
  have xf4 := xf 4
  have xf5 := xf 5
  have xf6 := xf 6
  have xf7 := xf 7
  have xf8 := xf 8
  have HF := Lib.hid (And.intro hq k2)
  clear k2 xf hq HD HKK HK
  go_wp2
  refine bodyPost_ret (v := .agg (ansV 0 ⟨#[]⟩)) (by simp [results, Tryz.results24, go_sem, ansV, x0, x1, x2, x3, x4, x5, x6, x7, x8]) rfl ?_
  refine ⟨rfl, W1, w2, w.heap.size + 1, _, HB.out, HF.out.1, by omega, HF.out.2, ?_⟩
  repeat' (first | with_reducible exact Kept.refl _ _ | with_reducible refine Kept.trans ?_ (Kept.setCell _ ⟨_, _, none⟩ _ (fun g => g = w.heap.size + 1) rfl))
end Go.Proofs.YtonpdbajoidigaaGreatDoor

/-
  FnSpace: what is refused.
-/
namespace Go.Proofs.YtonpdbajoidigaaGreatDoor
open Go.RowKit
set_option linter.unusedSimpArgs false
set_option linter.unusedVariables false

set_option maxRecDepth 100000 in
set_option maxHeartbeats 4000000 in
theorem stray_no (k : Int) (nm dt : ByteArray) (r0 r1 r2 r3 r4 : Bool) (w : World) (hn : nm.toList = [] ∨ r0 = true) (hd : dt.toList = [] ∨ r1 = true) :
    Calls Tryz.prog 98 #[.agg (callV k nm dt), .agg #[.bool r0, .bool r1, .bool r2, .bool r3, .bool r4]] w fun e w' => e = .returned (.bool false) ∧ Below w.heap.size w w' := by
  have HB : Hid (∀ o o', Below w.heap.size w ((w.alloc o).alloc o')) := fun o o' => ((Below.refl _ _).alloc (Nat.le_refl _) _).alloc (by simp) _
  unfold callV
  rcases hn with hx | rfl <;> rcases hd with hy | rfl
  all_goals
    go_enter Tryz.func98, Tryz.ntmps98
    go_wp2
    all_goals
      go_ret
      exact ⟨rfl, HB.out _ _⟩
set_option maxRecDepth 100000 in
theorem newSize_data (k : Int) (nm dt : ByteArray) (r0 r2 r3 r4 : Bool) (w : World) (hd : dt.size ≤ 4096) :
    Calls Tryz.prog 101 #[.agg (callV k nm dt), .agg #[.bool r0, .bool true, .bool r2, .bool r3, .bool r4]] w fun e w' => e = .returned (.int .i64 (dt.size : Int)) ∧ Below w.heap.size w w' := by
  have HB : Hid (∀ o o', Below w.heap.size w ((w.alloc o).alloc o')) := fun o o' => ((Below.refl _ _).alloc (Nat.le_refl _) _).alloc (by simp) _
  unfold callV
  go_enter Tryz.func101, Tryz.ntmps101
  go_wp2
  go_ret
  exact ⟨rfl, HB.out _ _⟩
def codeN (S : Nat) (b : Int) (es : List (Int × Bool)) (n m : Nat) : Int := if (S : Int) * b - 2 * b < (liveN es n : Int) + ((m : Int) + 1) then 24 else 0
set_option maxRecDepth 100000 in
set_option maxHeartbeats 2000000 in
theorem refuseSize_any (E C : Nat) (S : Nat) (b : Int) (W Dm : Nat) (ta : Option Addr) (n tc : Nat) (es : List (Int × Bool)) (q a u o : Int) (hs : List Value) (m : Nat) (z : Int) (w : World) (hE : EngAt w E C S b W Dm (.slice ta n tc) q a u o hs) (ht : ERead w ta n es) (hn : n ≤ 4096) (hv : vG (S : Int) b = true) (hm : m ≤ 22) (hz : z = 64 * (m : Int)) :
    Calls Tryz.prog 100 #[.pointer (some ⟨E, 0, none⟩), .int .i64 z] w fun e w' => e = .returned (.int .i64 (codeN S b es n m)) ∧ Below w.heap.size w w' := by
  have c10 := hE.c10
  have c7 := hE.c7
  have hlE := hE.lt
  have HFB : Hid (Calls Tryz.prog 78 #[.int .i64 z] w fun e w' => e = .returned (.int .i64 ((m : Int) + 1)) ∧ w' = w) := (fileBlocks_impl z w).mono fun e w' ⟨h1, h2⟩ => ⟨by rw [h1, if_pos (by omega)]; unfold nblk; congr 3; omega, h2⟩
  have HLV : Hid (Calls Tryz.prog 56 #[.slice ta n tc] w.drew fun e w' => e = .returned (.int .i64 (liveN es n)) ∧ Below w.heap.size w w') := (liveLids_any ta n tc es w.drew (ht.below (Below.refl _ _).drew) hn).mono fun e w' ⟨h1, h2⟩ => ⟨h1, (Below.refl _ _).drew.trans h2⟩
  obtain ⟨L, hL⟩ : ∃ L, liveN es n = L := ⟨_, rfl⟩
  have hL2 : L ≤ n := by rw [← hL]; exact liveN_le es n
  obtain ⟨cp, hcp⟩ : ∃ cp, (S : Int) * b - 2 * b = cp := ⟨_, rfl⟩
  have hg := vG_bounds hv
  have hg2 := vG_mul hv
  have hcp0 : cp ≤ 1024 ∧ -100 ≤ cp := by omega
  have HC : Hid (codeN S b es n m = if cp < (L : Int) + ((m : Int) + 1) then 24 else 0) := by show _ = _; unfold codeN; rw [hcp, hL]
  rw [hcp] at c7
  rw [hL] at HLV
  have hwr : IntKind.i64.wrap ((L : Int) + ((m : Int) + 1)) = (L : Int) + ((m : Int) + 1) := by simp [IntKind.wrap, IntKind.signed, IntKind.bits]; omega
  clear hE ht hL hcp hv hg hg2 hz
  by_cases hlt : cp < (L : Int) + ((m : Int) + 1)
  all_goals
    have HC2 := HC
    go_enter Tryz.func100, Tryz.ntmps100
    go_wp2_with fail
    refine HFB.out.mono ?_
    rintro e w0 ⟨rfl, hw0⟩
    have hw0 := hw0.symm
    subst hw0
    go_wp2_with fail
    go_region_law (first
      | (go_simp; go_at_call 56; refine HLV.out.mono ?_; rintro e w1 ⟨rfl, hb1⟩; have d7 : w1.cell? ⟨E, 7, none⟩ = some (.int .i64 cp) := (hb1.cell hlE).trans c7; have HB1 := Lib.hid hb1; clear hb1))
    all_goals
      go_wp2
      go_ret
      exact ⟨by rw [HC.out]; first | (rw [if_pos (by omega)]; rfl) | (rw [if_neg (by omega)]; rfl), HB1.out⟩
end Go.Proofs.YtonpdbajoidigaaGreatDoor
