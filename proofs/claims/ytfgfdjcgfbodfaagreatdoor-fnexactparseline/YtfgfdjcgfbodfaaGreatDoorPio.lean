/-
  The program's parseWrite.
-/
import Derived.Test.YtfgfdjcgfbodfaaGreatDoorPin
namespace Go.Proofs.YtfgfdjcgfbodfaaGreatDoor
open Go.RowKit
set_option linter.unusedSimpArgs false
set_option linter.unusedVariables false

theorem parseWrite_len (a : Option Addr) (n c : Nat) (w : World) (hn : n ≠ 2) :
    Calls Tryz.prog 28 #[.slice a n c] w fun e w' => LAns w w' e .bad := by
  have hn' : ((n : Int) != 2) = true := by simp; omega
  go_enter Tryz.func28, Tryz.ntmps28
  go_wp2
  refine bodyPost_ret (v := lnV .bad (.slice none 0 0)) (by simp [results, Tryz.results28, go_sem, lnV, LN.bad]) rfl ?_
  refine ⟨_, rfl, World.ownsRow_nil _ _ _ _, ?_⟩
  repeat' (first | with_reducible refine Below.setCell ?_ ?_ _ | with_reducible refine Below.alloc ?_ ?_ _ | with_reducible refine Below.drew ?_ | with_reducible assumption | with_reducible exact Below.refl _ _ | (simp; done) | (simp; omega) | omega)
set_option maxHeartbeats 4000000 in
set_option maxRecDepth 100000 in
theorem parseWrite_two (g off c : Nat) (s b : ByteArray) (w : World) (h0 : w.cell? ⟨g, off, none⟩ = some (.string s)) (h1 : w.cell? ⟨g, off + 1, none⟩ = some (.string b)) :
    Calls Tryz.prog 28 #[.slice (some ⟨g, off, none⟩) 2 c] w fun e w' => LAns w w' e (.call 1 s (dash b) 0) := by
  obtain ⟨W0, hW0, HS⟩ := line_world w
  have d0 : W0.cell? ⟨g, off, none⟩ = some (.string s) := (HS.out.1.cell (World.block_lt_of_cell? w _ h0)).trans h0
  have d1 : W0.cell? ⟨g, off + 1, none⟩ = some (.string b) := (HS.out.1.cell (World.block_lt_of_cell? w _ h1)).trans h1
  obtain ⟨t, ht⟩ : ∃ t, (b.toList == [45]) = t := ⟨_, rfl⟩
  have HD : Hid (dash b = if t = true then ⟨#[]⟩ else b) := by show _ = _; unfold dash weq; rw [ht]
  generalize dash b = D at *
  clear h0 h1
  cases t
  case true =>
    have HC : Hid (D = ⟨#[]⟩) := HD.out
    clear HD
    go_enter Tryz.func28, Tryz.ntmps28
    go_wp2_with fail
    refine (writeLine_any _ _ _).mono ?_
    rintro e w1 ⟨rfl, hb1⟩
    have hB := HS.out.1.trans (hb1.mono HS.out.1.size)
    obtain ⟨⟨x0, x1, x2, x3, x4, x5⟩, f0, f1, f2, f3, f4, f5⟩ := six_of ((hb1.block w.heap.size (by rw [HS.out.2.2]; omega)).trans HS.out.2.1)
    clear hb1
    go_wp2
    rw [HC.out]
    refine bodyPost_ret (v := lnV (.call 1 s ⟨#[]⟩ 0) (.slice none 0 0)) (by simp [results, Tryz.results28, go_sem, x0, x1, x2, x3, x4, x5, lnV, LN.call]) rfl ?_
    refine ⟨_, rfl, World.ownsRow_nil _ _ _ _, ?_⟩
    repeat' (first | with_reducible refine Below.setCell ?_ ?_ _ | with_reducible refine Below.alloc ?_ ?_ _ | with_reducible refine Below.drew ?_ | with_reducible assumption | with_reducible exact Below.refl _ _ | (simp; done) | (simp; omega) | omega)
  case false =>
    have HC : Hid (D = b) := HD.out
    clear HD
    go_enter Tryz.func28, Tryz.ntmps28
    go_wp2_with fail
    go_region_law (first
      | (go_simp; go_at_call 39; refine (writeLine_any _ _ _).mono ?_; rintro e w1 ⟨rfl, hb1⟩; have hB : Below w.heap.size w w1 := HS.out.1.drew.trans (hb1.mono HS.out.1.size); obtain ⟨⟨x0, x1, x2, x3, x4, x5⟩, f0, f1, f2, f3, f4, f5⟩ := six_of ((hb1.block w.heap.size (by show _ < W0.heap.size; rw [HS.out.2.2]; omega)).trans HS.out.2.1); clear hb1))
    all_goals
      go_wp2
      rw [HC.out]
      refine bodyPost_ret (v := lnV (.call 1 s b 0) (.slice none 0 0)) (by simp [results, Tryz.results28, go_sem, x0, x1, x2, x3, x4, x5, lnV, LN.call]) rfl ?_
      refine ⟨_, rfl, World.ownsRow_nil _ _ _ _, ?_⟩
      repeat' (first | with_reducible refine Below.setCell ?_ ?_ _ | with_reducible refine Below.alloc ?_ ?_ _ | with_reducible refine Below.drew ?_ | with_reducible assumption | with_reducible exact Below.refl _ _ | (simp; done) | (simp; omega) | omega)
end Go.Proofs.YtfgfdjcgfbodfaaGreatDoor
