/-
  The specification's calls, of any fields.
-/
import Derived.Test.YtfgfdjcgfbodfaaGreatDoorPcn
namespace Go.Proofs.YtfgfdjcgfbodfaaGreatDoor
open Go.RowKit
set_option linter.unusedSimpArgs false
set_option linter.unusedVariables false

theorem sAt_drop (ss : List ByteArray) (j i : Nat) : sAt (ss.drop j) i = sAt ss (j + i) := by
  unfold sAt
  rw [List.getElem?_drop]
theorem srow_drop {W : World} {g m j : Nat} {ss : List ByteArray} (hl : ss.length = m) (hc : ∀ i, i < m → W.cell? ⟨g, i, none⟩ = some (.string (sAt ss i))) : SRow W (some ⟨g, j, none⟩) (m - j) (ss.drop j) :=
  ⟨by rw [List.length_drop, hl], .inr ⟨g, j, rfl, fun i hi => by rw [sAt_drop]; exact hc (j + i) (by omega)⟩⟩
set_option maxHeartbeats 4000000 in
set_option maxRecDepth 100000 in
theorem callLine_5 (g m c : Nat) (ss : List ByteArray) (w : World) (hl : ss.length = m) (h5 : 5 ≤ m) (hm : m ≤ 1048577) (hcell : ∀ i, i < m → w.cell? ⟨g, i, none⟩ = some (.string (sAt ss i))) (hz : ∀ i, i < m → (sAt ss i).size ≤ 1048576) (hc : m ≤ c) (hcm : c ≤ 9223372036854775807) :
    Calls Tryz.prog 13 #[.slice (some ⟨g, 0, none⟩) m c] w fun e w' => LAns w w' e .bad := by
  have m1 : ((m : Int) == 1) = false := by rw [beq_eq_false_iff_ne]; omega
  have m2 : ((m : Int) == 2) = false := by rw [beq_eq_false_iff_ne]; omega
  have m3 : ((m : Int) == 3) = false := by rw [beq_eq_false_iff_ne]; omega
  have m4 : ¬ (m : Int) < 3 := by omega
  obtain ⟨W0, hW0, HS⟩ := line_world w
  obtain ⟨k, hk⟩ : ∃ k, m - 2 = k := ⟨_, rfl⟩
  have k1 : ((k : Int) == 1) = false := by rw [beq_eq_false_iff_ne]; omega
  have k2 : ((k : Int) == 2) = false := by rw [beq_eq_false_iff_ne]; omega
  obtain ⟨q, hq⟩ : ∃ q, numsFlag (ss.drop 2) = q := ⟨_, rfl⟩
  have HN : Hid (Calls Tryz.prog 14 #[.slice (some ⟨g, 2, none⟩) k (c - 2)] W0 fun e w' => ∃ v, e = .returned (.tuple #[v, .bool q]) ∧ (q = true → w'.ownsRow W0.heap.size 2 1 v k (i64G (numsOf (ss.drop 2)))) ∧ Below W0.heap.size W0 w') := by
    have h := nums_spec (some ⟨g, 2, none⟩) k (c - 2) (ss.drop 2) W0 (by rw [← hk]; exact srow_drop hl (fun i hi => (HS.out.1.cell (World.block_lt_of_cell? w _ (hcell i hi))).trans (hcell i hi))) (fun i hi => by rw [sAt_drop]; exact hz _ (by omega)) (by omega)
    rw [hq] at h
    exact h
  clear hq hz hcell
  go_enter Tryz.func13, Tryz.ntmps13
  go_wp2_with fail
  refine HN.out.mono ?_
  rintro e w1 ⟨v, rfl, hv, hb1⟩
  have hB1 := HS.out.1.trans (hb1.mono HS.out.1.size)
  have hblk := (hb1.block w.heap.size (by rw [HS.out.2.2]; omega)).trans HS.out.2.1
  have HV := Lib.hid hv
  obtain ⟨⟨x0, x1, x2, x3, x4, x5⟩, f0, f1, f2, f3, f4, f5⟩ := six_of hblk
  clear hb1 hv HN hW0 hblk
  cases q
  case false =>
    clear HV
    go_wp2
    refine bodyPost_ret (v := lnV .bad (.slice none 0 0)) (by simp [results, Tryz.results13, go_sem, x0, x1, x2, x3, x4, x5, lnV, LN.call, LN.bad]) rfl ?_
    refine ⟨_, rfl, World.ownsRow_nil _ _ _ _, ?_⟩
    repeat' (first | with_reducible refine Below.setCell ?_ ?_ _ | with_reducible refine Below.alloc ?_ ?_ _ | with_reducible refine Below.drew ?_ | with_reducible assumption | with_reducible exact Below.refl _ _ | (simp; done) | (simp; omega) | omega)
  case true =>
    obtain ⟨gv, cap, rfl, _⟩ := own_one (HV.out rfl) (by omega)
    clear HV
    go_wp2
    refine bodyPost_ret (v := lnV .bad (.slice none 0 0)) (by simp [results, Tryz.results13, go_sem, x0, x1, x2, x3, x4, x5, lnV, LN.call, LN.bad]) rfl ?_
    refine ⟨_, rfl, World.ownsRow_nil _ _ _ _, ?_⟩
    repeat' (first | with_reducible refine Below.setCell ?_ ?_ _ | with_reducible refine Below.alloc ?_ ?_ _ | with_reducible refine Below.drew ?_ | with_reducible assumption | with_reducible exact Below.refl _ _ | (simp; done) | (simp; omega) | omega)
theorem callOf_five {ss : List ByteArray} (h : 5 ≤ ss.length) : callOf ss = .bad := by
  match ss, h with
  | [], h => simp at h
  | [_], h => simp at h
  | [_, _], h => simp at h
  | [_, _, _], h => simp at h
  | [_, _, _, _], h => simp at h
  | _ :: _ :: _ :: _ :: _ :: _, _ => rfl
theorem callLine_any (g c : Nat) (ss : List ByteArray) (w : World) (h1 : 1 ≤ ss.length) (hm : ss.length ≤ 1048577) (hcell : ∀ i, i < ss.length → w.cell? ⟨g, i, none⟩ = some (.string (sAt ss i))) (hz : ∀ i, i < ss.length → (sAt ss i).size ≤ 1048576) (hc : ss.length ≤ c) (hcm : c ≤ 9223372036854775807) :
    Calls Tryz.prog 13 #[.slice (some ⟨g, 0, none⟩) ss.length c] w fun e w' => LAns w w' e (callOf ss) := by
  match ss, h1, hm, hcell, hz, hc with
  | [s], _, _, hcell, _, _ => exact callLine_1 g c s w (hcell 0 (by simp))
  | [s, a], _, _, hcell, _, _ => exact callLine_2 g c s a w (hcell 0 (by simp)) (hcell 1 (by simp))
  | [s, a, b], _, _, hcell, hz, hc => exact callLine_3 g c s a b w (hcell 0 (by simp)) (hcell 1 (by simp)) (hcell 2 (by simp)) hc hcm (hz 2 (by simp))
  | [s, a, b, d], _, _, hcell, hz, hc => exact callLine_4 g c s a b d w (hcell 0 (by simp)) (hcell 1 (by simp)) (hcell 2 (by simp)) (hcell 3 (by simp)) hc hcm (hz 2 (by simp)) (hz 3 (by simp))
  | s :: a :: b :: d :: e :: r, _, hm, hcell, hz, hc => exact callLine_5 g _ c _ w rfl (by simp) hm hcell hz hc hcm
end Go.Proofs.YtfgfdjcgfbodfaaGreatDoor
