/-
  The program's DecodeInode, at blocks that are long enough for the lids that they name.
-/
import Derived.Test.YtkkammbfomiofaaDoorRin
import Derived.Test.YtkkammbfomiofaaDoorInz
namespace Go.Proofs.YtkkammbfomiofaaDoor
open Go.RowKit
set_option linter.unusedSimpArgs false
set_option linter.unusedVariables false

set_option maxHeartbeats 400000 in
theorem catchI_idle (g : Nat) (w : World) :
    CallsD Tryd.prog 23 #[.pointer (some ⟨g, 0, none⟩)] .returning w fun e u' w' => e = .returned (.tuple #[]) ∧ u' = .returning ∧ w' = w := by
  refine callsD_of_wpS Tryd.func23 rfl fun c₀ cs hu => ?_
  apply wpS_seq
  apply wpS_region
  simp [wpOpsS, go_sem, recoverD, hu, Tryd.ntmps23, Exit.thenS]
  refine (ranOut_nil w).mono ?_
  rintro e w1 ⟨rfl, rfl⟩
  refine wpS_cond (t := false) (by simp [Act.eval, Array.replicate]) ?_
  simp only [Bool.false_eq_true, if_false]
  refine wpS_of_wp (wp_skip ?_)
  cases c₀
  simp_all [bodyPostS, results, Tryd.results23]
/-- Is it the block of the inode that it names? -/
def decI (xs : List Int) : Bool := decide (xs.length = 64) && (inoB (inN xs) (inZ xs) (inL xs (inK xs)) && decide (xs = inoL (inN xs) (inZ xs) (inL xs (inK xs))))
/-- What DecodeInode answers. -/
def IAns (w w' : World) (e : Ending) (xs : List Int) : Prop := Below w.heap.size w w' ∧
  ((decI xs = false ∧ e = .returned (.agg #[.bool false, .string ⟨#[]⟩, .int .i64 0, .slice none 0 0])) ∨
   (decI xs = true ∧ ∃ a c, e = .returned (.agg #[.bool true, .string (inN xs), .int .i64 (inZ xs), .slice a (inK xs) c]) ∧ w'.ownsRow w.heap.size 2 1 (.slice a (inK xs) c) (inK xs) (i64G (inL xs (inK xs)))))
theorem four_of {w : World} {g : Nat} {x0 x1 x2 x3 : Value} {t : TypeId} (k1 : w.heap[g]? = some (.cells #[x0, x1, x2, x3] t (0, 0))) :
    (w.cell? ⟨g, 0, none⟩ = some x0 ∧ w.cell? ⟨g, 1, none⟩ = some x1 ∧ w.cell? ⟨g, 2, none⟩ = some x2 ∧ w.cell? ⟨g, 3, none⟩ = some x3) ∧ w.frozen? ⟨g, 0, none⟩ = false ∧ w.frozen? ⟨g, 1, none⟩ = false ∧ w.frozen? ⟨g, 2, none⟩ = false ∧ w.frozen? ⟨g, 3, none⟩ = false := by
  refine ⟨⟨?_, ?_, ?_, ?_⟩, ?_, ?_, ?_, ?_⟩
  · rw [cell_of_row w g 0 _ _ _ k1]; rfl
  · rw [cell_of_row w g 1 _ _ _ k1]; rfl
  · rw [cell_of_row w g 2 _ _ _ k1]; rfl
  · rw [cell_of_row w g 3 _ _ _ k1]; rfl
  all_goals simp [World.frozen?, k1]
theorem inN_size {xs : List Int} : (inN xs).size ≤ 16 := by
  have h : (Lib.trimRightB ((xs.take 16).map toU) 0).length ≤ ((xs.take 16).map toU).length := by
    unfold Lib.trimRightB
    rw [List.length_reverse]
    have h9 := (List.dropWhile_sublist (fun b : UInt8 => b == 0) (l := ((xs.take 16).map toU).reverse)).length_le
    simpa using h9
  simp only [inN, ByteArray.size, List.size_toArray]
  simp only [List.length_map, List.length_take] at h
  omega
theorem byt_pad {l : List Int} (h : Byt l) (n : Nat) : Byt (padL l n) := fun x hx => by
  unfold padL at hx
  rcases List.mem_append.1 hx with hx | hx
  · exact h x hx
  · rw [List.eq_of_mem_replicate hx]; omega
theorem inoL_byt {nm : ByteArray} {z : Int} {xs : List Int} (h : inoB nm z xs = true) : Byt (inoL nm z xs) := by
  unfold inoL
  refine byt_pad (fun x hx => ?_) 64
  rcases List.mem_append.1 hx with hx | hx
  · rcases List.mem_append.1 hx with hx | hx
    · refine byt_pad (fun y hy => ?_) 16 x hx
      unfold nmL at hy
      obtain ⟨b, _, rfl⟩ := List.mem_map.1 hy
      have := b.toNat_lt
      omega
    · exact beB_byt _ _ x hx
  · unfold lidL at hx
    obtain ⟨v, _, hx⟩ := List.mem_flatMap.1 hx
    exact beB_byt _ _ x hx
set_option maxHeartbeats 4000000 in
set_option maxRecDepth 100000 in
theorem decodeInode_long (a : Option Addr) (n c : Nat) (xs : List Int) (w : World) (ha : IRow .u8 w a n xs) (hx : Byt xs) (hn : 18 + 2 * inK xs ≤ n) (hc : n ≤ c) (hm : c ≤ 9223372036854775807) :
    Calls Tryd.prog 7 #[.slice a n c] w fun e w' => IAns w w' e xs := by
  have hmf : ∀ (fn : Fn) (first cap : Array Value) (w : World), (Instr.makeFunc fn first cap).run Tryd.prog w = .ok (.func fn first cap) w := fun _ _ _ _ => rfl
  obtain ⟨k1, k2, hb0, s0⟩ := @two_blocks w (.cells #[.bool false, .string ⟨#[]⟩, .int .i64 0, .slice none 0 0] 29) (.cells #[.slice a n c] 62)
  have HA : Hid (IRow .u8 w a n xs ∧ Byt xs) := ⟨ha, hx⟩
  obtain ⟨z0, z1⟩ := inZ_range hx (by rw [ha.1]; omega)
  have hk9 : inK xs ≤ 1024 := by unfold inK; omega
  go_enter_defers Tryd.func7, Tryd.ntmps7
  go_wp2_with fail
  refine (readInode_long (w.heap.size + 1) a n c xs w _ ha hb0 (by omega) k2 hn hc hm hx).mono ?_
  rintro e w1 ⟨al, cl, rfl, hown, hk1⟩
  have kN := (hk1.block w.heap.size (by rw [s0]; omega) (by omega)).trans k1
  have hB1 : Below w.heap.size w w1 := hb0.trans (hk1.below (by rw [s0]; omega) (fun g hg => by omega))
  have lN : w.heap.size < w1.heap.size := (Array.getElem?_eq_some_iff.1 kN).1
  have HOWN : Hid (w1.ownsRow (w.heap.size + 2) 2 1 (.slice al (inK xs) cl) (inK xs) (i64G (inL xs (inK xs)))) := by
    have h9 := gn_base hown (B' := w.heap.size + 2) (by rw [s0]; exact Nat.le_refl _)
    exact h9
  obtain ⟨a9, c9, e9, r9⟩ := gn_row hown
  injection e9 with e9 _ e9c
  subst e9; subst e9c
  have HROW : Hid (IRow .i64 w1 al (inK xs) (inL xs (inK xs))) := r9.read
  have HNS : Hid ((inN xs).size ≤ 1048576) := Nat.le_trans inN_size (by omega)
  have HDI : Hid (decI xs = (decide (xs.length = 64) && (inoB (inN xs) (inZ xs) (inL xs (inK xs)) && decide (xs = inoL (inN xs) (inZ xs) (inL xs (inK xs)))))) := rfl
  have HGOAL : Hid (∀ w' e, (Below w.heap.size w w' ∧ ((decI xs = false ∧ e = .returned (.agg #[.bool false, .string ⟨#[]⟩, .int .i64 0, .slice none 0 0])) ∨ (decI xs = true ∧ ∃ a c, e = .returned (.agg #[.bool true, .string (inN xs), .int .i64 (inZ xs), .slice a (inK xs) c]) ∧ w'.ownsRow w.heap.size 2 1 (.slice a (inK xs) c) (inK xs) (i64G (inL xs (inK xs)))))) → IAns w w' e xs) := fun _ _ h => h
  clear k1 k2 hb0 s0 hk1 ha hx hown r9
  generalize inN xs = N at *
  generalize inZ xs = Z at *
  generalize inL xs (inK xs) = LL at *
  generalize inK xs = k at *
  have hW : Below w1.heap.size w1 (w1.alloc (.cells #[.string N, .int .i64 Z, .slice al k cl] 25)) := (Below.refl _ _).alloc (Nat.le_refl _) _
  obtain ⟨⟨d0, d1, d2⟩, _, _, _⟩ := three_of (heap_alloc_new w1 (.cells #[.string N, .int .i64 Z, .slice al k cl] 25))
  go_wp2_with fail
  refine (validInode_impl N Z al k cl LL _ (HROW.out.below hW) HNS.out (by omega)).mono ?_
  rintro e w3 ⟨rfl, hb3⟩
  have hs3 := hb3.size
  have hW1 := hW.size
  have e0 := (hb3.cell (World.block_lt_of_cell? _ _ d0)).trans d0
  have e1 := (hb3.cell (World.block_lt_of_cell? _ _ d1)).trans d1
  have e2 := (hb3.cell (World.block_lt_of_cell? _ _ d2)).trans d2
  have HB13 : Hid (Below w1.heap.size w1 w3) := hW.trans (hb3.mono hW.size)
  have hB3 : Below w.heap.size w w3 := hB1.trans (HB13.out.mono (by omega))
  have kN3 := (HB13.out.block w.heap.size lN).trans kN
  clear hW d0 d1 d2 hb3 hs3 hW1 hB1 kN
  obtain ⟨⟨t0, t1, t2, t3⟩, z0', z1', z2', z3'⟩ := four_of kN3
  cases hv : inoB N Z LL
  · have HD : Hid (decI xs = false) := by show _ = _; rw [HDI.out, hv]; simp
    go_wp2
    refine leaves_cons (f := 23) (args := #[.pointer (some ⟨w.heap.size, 0, none⟩)]) (by simp) (by simp [go_sem]) ?_
    refine (catchI_idle w.heap.size _).mono ?_
    rintro e u' w'' ⟨rfl, rfl, rfl⟩
    simp [Leaves, settle, results, Tryd.results7, go_sem, t0, t1, t2, t3]
    exact ⟨(((hB3.setCell (Nat.le_refl _) _).setCell (Nat.le_refl _) _).setCell (Nat.le_refl _) _).setCell (Nat.le_refl _) _, .inl ⟨HD.out, rfl⟩⟩
  · go_wp2_with fail
    refine (inodeBlock_any N Z al k cl LL _ (HROW.out.below HB13.out) hv).mono ?_
    rintro e w4 ⟨rfl, hb4⟩
    have hs4 := hb4.size
    have kN4 := (hb4.block w.heap.size (Array.getElem?_eq_some_iff.1 kN3).1).trans kN3
    have hB4 : Below w.heap.size w w4 := hB3.trans (hb4.mono hB3.size)
    have f0 := (hb4.cell (World.block_lt_of_cell? _ _ e0)).trans e0
    have f1 := (hb4.cell (World.block_lt_of_cell? _ _ e1)).trans e1
    have f2 := (hb4.cell (World.block_lt_of_cell? _ _ e2)).trans e2
    have l4 : w1.heap.size < w4.heap.size := World.block_lt_of_cell? _ _ f0
    have HB14 : Hid (Below w1.heap.size w1 w4) := HB13.out.trans (hb4.mono HB13.out.size)
    clear e0 e1 e2 hb4 hB3 kN3 t0 t1 t2 t3 z0' z1' z2' z3' HB13
    by_cases h64 : n = 64
    · subst h64
      rcases HA.out.1.2 with h0 | ⟨g, off, rfl, hcell⟩
      · omega
      clear hcell
      go_wp2_with fail
      refine (isBlock_any g off c xs (inoL N Z LL) _ (HA.out.1.below hB4) HA.out.2 (inoL_byt hv) (inoL_len hv)).mono ?_
      rintro e w5 ⟨rfl, hb5⟩
      have kN5 := (hb5.block w.heap.size (Array.getElem?_eq_some_iff.1 kN4).1).trans kN4
      have hB5 : Below w.heap.size w w5 := hB4.trans (hb5.mono hB4.size)
      have j0 := (hb5.cell (World.block_lt_of_cell? _ _ f0)).trans f0
      have j1 := (hb5.cell (World.block_lt_of_cell? _ _ f1)).trans f1
      have j2 := (hb5.cell (World.block_lt_of_cell? _ _ f2)).trans f2
      have HB15 : Hid (Below w1.heap.size w1 w5) := HB14.out.trans (hb5.mono HB14.out.size)
      have hdd : decI xs = decide (xs = inoL N Z LL) := by rw [HDI.out, hv, HA.out.1.1]; simp
      rw [← hdd]
      clear f0 f1 f2 hb5 hB4 kN4 hdd HB14
      obtain ⟨⟨t0, t1, t2, t3⟩, z0', z1', z2', z3'⟩ := four_of kN5
      cases hd : decI xs
      · go_wp2
        refine leaves_cons (f := 23) (args := #[.pointer (some ⟨w.heap.size, 0, none⟩)]) (by simp) (by simp [go_sem]) ?_
        refine (catchI_idle w.heap.size _).mono ?_
        rintro e u' w'' ⟨rfl, rfl, rfl⟩
        simp [Leaves, settle, results, Tryd.results7, go_sem, t0, t1, t2, t3]
        exact ⟨(((hB5.setCell (Nat.le_refl _) _).setCell (Nat.le_refl _) _).setCell (Nat.le_refl _) _).setCell (Nat.le_refl _) _, .inl ⟨hd, rfl⟩⟩
      · have HOF : Hid (∀ u0 u1 u2 u3, ((((w5.setCell ⟨w.heap.size, 0, none⟩ u0).setCell ⟨w.heap.size, 1, none⟩ u1).setCell ⟨w.heap.size, 2, none⟩ u2).setCell ⟨w.heap.size, 3, none⟩ u3).ownsRow w.heap.size 2 1 (.slice al k cl) k (i64G LL)) := fun u0 u1 u2 u3 => by
          have h9 := gn_kept HOWN.out (Kept.of_below HB15.out (fun _ => False)) (fun _ _ h => h)
          have kk : Kept (fun g => g = w.heap.size) w5 ((((w5.setCell ⟨w.heap.size, 0, none⟩ u0).setCell ⟨w.heap.size, 1, none⟩ u1).setCell ⟨w.heap.size, 2, none⟩ u2).setCell ⟨w.heap.size, 3, none⟩ u3) := (((Kept.setCell w5 ⟨w.heap.size, 0, none⟩ _ (fun g => g = w.heap.size) rfl).trans (Kept.setCell _ ⟨w.heap.size, 1, none⟩ _ _ rfl)).trans (Kept.setCell _ ⟨w.heap.size, 2, none⟩ _ _ rfl)).trans (Kept.setCell _ ⟨w.heap.size, 3, none⟩ _ _ rfl)
          exact gn_base (gn_kept h9 kk (fun g hg e => by have := (h9.lt g hg).1; omega)) (by omega)
        go_wp2
        refine leaves_cons (f := 23) (args := #[.pointer (some ⟨w.heap.size, 0, none⟩)]) (by simp) (by simp [go_sem]) ?_
        refine (catchI_idle w.heap.size _).mono ?_
        rintro e u' w'' ⟨rfl, rfl, rfl⟩
        simp [Leaves, settle, results, Tryd.results7, go_sem, t0, t1, t2, t3]
        exact HGOAL.out _ _ ⟨(((hB5.setCell (Nat.le_refl _) _).setCell (Nat.le_refl _) _).setCell (Nat.le_refl _) _).setCell (Nat.le_refl _) _, .inr ⟨hd, al, cl, rfl, HOF.out _ _ _ _⟩⟩
    · have HD : Hid (decI xs = false) := by show _ = _; rw [HDI.out, HA.out.1.1]; simp [h64]
      go_wp2_with fail
      refine (isBlock_no a n c _ _ h64).mono ?_
      rintro e w5 ⟨rfl, hb5⟩
      have kN5 := (hb5.block w.heap.size (Array.getElem?_eq_some_iff.1 kN4).1).trans kN4
      have hB5 : Below w.heap.size w w5 := hB4.trans (hb5.mono hB4.size)
      clear f0 f1 f2 hb5 hB4 kN4
      obtain ⟨⟨t0, t1, t2, t3⟩, z0', z1', z2', z3'⟩ := four_of kN5
      go_wp2
      refine leaves_cons (f := 23) (args := #[.pointer (some ⟨w.heap.size, 0, none⟩)]) (by simp) (by simp [go_sem]) ?_
      refine (catchI_idle w.heap.size _).mono ?_
      rintro e u' w'' ⟨rfl, rfl, rfl⟩
      simp [Leaves, settle, results, Tryd.results7, go_sem, t0, t1, t2, t3]
      exact ⟨(((hB5.setCell (Nat.le_refl _) _).setCell (Nat.le_refl _) _).setCell (Nat.le_refl _) _).setCell (Nat.le_refl _) _, .inl ⟨HD.out, rfl⟩⟩
end Go.Proofs.YtkkammbfomiofaaDoor
