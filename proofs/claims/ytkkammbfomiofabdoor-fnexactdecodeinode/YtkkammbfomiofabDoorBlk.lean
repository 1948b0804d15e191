/-
  putBlock: an array of 64 bytes.
-/
import Derived.Test.YtkkammbfomiofabDoorPad
import Derived.Deep.RegionLaw
import Derived.Laws.CopyOwn
import Derived.Laws.Tables
namespace Go.Proofs.YtkkammbfomiofabDoor
open Go.RowKit
set_option linter.unusedSimpArgs false
set_option linter.unusedVariables false

/-- 64 zeros. -/
def z64 : List Value := u8s (List.replicate 64 0)
theorem z64_lit : z64.toArray = #[.int .u8 0, .int .u8 0, .int .u8 0, .int .u8 0, .int .u8 0, .int .u8 0, .int .u8 0, .int .u8 0, .int .u8 0, .int .u8 0, .int .u8 0, .int .u8 0, .int .u8 0, .int .u8 0, .int .u8 0, .int .u8 0, .int .u8 0, .int .u8 0, .int .u8 0, .int .u8 0, .int .u8 0, .int .u8 0, .int .u8 0, .int .u8 0, .int .u8 0, .int .u8 0, .int .u8 0, .int .u8 0, .int .u8 0, .int .u8 0, .int .u8 0, .int .u8 0, .int .u8 0, .int .u8 0, .int .u8 0, .int .u8 0, .int .u8 0, .int .u8 0, .int .u8 0, .int .u8 0, .int .u8 0, .int .u8 0, .int .u8 0, .int .u8 0, .int .u8 0, .int .u8 0, .int .u8 0, .int .u8 0, .int .u8 0, .int .u8 0, .int .u8 0, .int .u8 0, .int .u8 0, .int .u8 0, .int .u8 0, .int .u8 0, .int .u8 0, .int .u8 0, .int .u8 0, .int .u8 0, .int .u8 0, .int .u8 0, .int .u8 0, .int .u8 0] := by rfl
theorem z64_len : z64.length = 64 := by rfl
theorem info5s : (Tryd.prog.info? 5).map (·.size) = some 1 := by kernel_rfl
theorem info48b : (Tryd.prog.info? 48).map (·.size) = some 64 := by kernel_rfl

theorem two_blocks {w : World} (o1 o2 : Obj) : ((w.alloc o1).alloc o2).heap[w.heap.size]? = some o1 ∧ ((w.alloc o1).alloc o2).heap[w.heap.size + 1]? = some o2 ∧ Below w.heap.size w ((w.alloc o1).alloc o2) ∧ ((w.alloc o1).alloc o2).heap.size = w.heap.size + 2 :=
  ⟨heap_alloc2_old w o1 o2, heap_alloc2_new w o1 o2, ((Below.refl _ _).alloc (Nat.le_refl _) _).alloc (by simp) _, by simp⟩

theorem splice_pad (xs : List Int) (h : xs.length ≤ 64) : splice z64 0 (u8s xs) = u8s (padL xs 64) := by
  simp only [splice, z64, padL, u8s, List.take_zero, List.nil_append, List.length_map, Nat.zero_add, List.map_append, List.map_replicate, List.drop_replicate]
theorem NRead.below {w w' : World} {a : Option Addr} {m : Nat} {ns : List (Int × Int)} (h : NRead w a m ns) (hb : Below w.heap.size w w') : NRead w' a m ns := by
  refine ⟨h.1, ?_⟩
  by_cases hm : m = 0
  · exact .inl hm
  rcases h.2 with h0 | ⟨g, off, e, hc⟩
  · exact .inl h0
  · refine .inr ⟨g, off, e, fun i hi => ?_⟩
    rw [hb.cell (World.block_lt_of_cell? w _ (hc i hi).1), hb.cell (World.block_lt_of_cell? w _ (hc i hi).2)]
    exact hc i hi
theorem owns_pos {w : World} {B n : Nat} {sp : Option Addr} {sc : Nat} {xs : List Value} (h : w.ownsRow B 5 1 (.slice sp n sc) n xs) (hn : 0 < n) : ∃ ad, sp = some ad ∧ ∀ j v, xs[j]? = some v → w.cell? (ad.add j) = some v := by
  obtain ⟨g, c, e, hc, _⟩ := owns_some h hn
  injection e with e1 e2 e3
  exact ⟨_, e1, hc⟩

set_option maxHeartbeats 1000000 in
theorem putBlock_any (a : Option Addr) (m ca : Nat) (ns : List (Int × Int)) (w : World) (ha : NRead w a m ns) (hok : NOk m ns) (hm : m ≤ 4096) (hl : (putL ns).length ≤ 64) :
    Calls Tryd.prog 32 #[.slice a m ca] w fun e w' => e = .returned (.agg (u8s (padL (putL ns) 64)).toArray) ∧ Below w.heap.size w w' := by
  go_enter Tryd.func32, Tryd.ntmps32
  go_wp2
  obtain ⟨W0, hW0⟩ : ∃ W0, W0 = (w.alloc (.cells #[.int .u8 0, .int .u8 0, .int .u8 0, .int .u8 0, .int .u8 0, .int .u8 0, .int .u8 0, .int .u8 0, .int .u8 0, .int .u8 0, .int .u8 0, .int .u8 0, .int .u8 0, .int .u8 0, .int .u8 0, .int .u8 0, .int .u8 0, .int .u8 0, .int .u8 0, .int .u8 0, .int .u8 0, .int .u8 0, .int .u8 0, .int .u8 0, .int .u8 0, .int .u8 0, .int .u8 0, .int .u8 0, .int .u8 0, .int .u8 0, .int .u8 0, .int .u8 0, .int .u8 0, .int .u8 0, .int .u8 0, .int .u8 0, .int .u8 0, .int .u8 0, .int .u8 0, .int .u8 0, .int .u8 0, .int .u8 0, .int .u8 0, .int .u8 0, .int .u8 0, .int .u8 0, .int .u8 0, .int .u8 0, .int .u8 0, .int .u8 0, .int .u8 0, .int .u8 0, .int .u8 0, .int .u8 0, .int .u8 0, .int .u8 0, .int .u8 0, .int .u8 0, .int .u8 0, .int .u8 0, .int .u8 0, .int .u8 0, .int .u8 0, .int .u8 0] 48)).alloc (.cells #[.int .u8 0, .int .u8 0, .int .u8 0, .int .u8 0, .int .u8 0, .int .u8 0, .int .u8 0, .int .u8 0, .int .u8 0, .int .u8 0, .int .u8 0, .int .u8 0, .int .u8 0, .int .u8 0, .int .u8 0, .int .u8 0, .int .u8 0, .int .u8 0, .int .u8 0, .int .u8 0, .int .u8 0, .int .u8 0, .int .u8 0, .int .u8 0, .int .u8 0, .int .u8 0, .int .u8 0, .int .u8 0, .int .u8 0, .int .u8 0, .int .u8 0, .int .u8 0, .int .u8 0, .int .u8 0, .int .u8 0, .int .u8 0, .int .u8 0, .int .u8 0, .int .u8 0, .int .u8 0, .int .u8 0, .int .u8 0, .int .u8 0, .int .u8 0, .int .u8 0, .int .u8 0, .int .u8 0, .int .u8 0, .int .u8 0, .int .u8 0, .int .u8 0, .int .u8 0, .int .u8 0, .int .u8 0, .int .u8 0, .int .u8 0, .int .u8 0, .int .u8 0, .int .u8 0, .int .u8 0, .int .u8 0, .int .u8 0, .int .u8 0, .int .u8 0] 48) := ⟨_, rfl⟩
  obtain ⟨k1, k2, hb0, s0⟩ := @two_blocks w (.cells #[.int .u8 0, .int .u8 0, .int .u8 0, .int .u8 0, .int .u8 0, .int .u8 0, .int .u8 0, .int .u8 0, .int .u8 0, .int .u8 0, .int .u8 0, .int .u8 0, .int .u8 0, .int .u8 0, .int .u8 0, .int .u8 0, .int .u8 0, .int .u8 0, .int .u8 0, .int .u8 0, .int .u8 0, .int .u8 0, .int .u8 0, .int .u8 0, .int .u8 0, .int .u8 0, .int .u8 0, .int .u8 0, .int .u8 0, .int .u8 0, .int .u8 0, .int .u8 0, .int .u8 0, .int .u8 0, .int .u8 0, .int .u8 0, .int .u8 0, .int .u8 0, .int .u8 0, .int .u8 0, .int .u8 0, .int .u8 0, .int .u8 0, .int .u8 0, .int .u8 0, .int .u8 0, .int .u8 0, .int .u8 0, .int .u8 0, .int .u8 0, .int .u8 0, .int .u8 0, .int .u8 0, .int .u8 0, .int .u8 0, .int .u8 0, .int .u8 0, .int .u8 0, .int .u8 0, .int .u8 0, .int .u8 0, .int .u8 0, .int .u8 0, .int .u8 0] 48) (.cells #[.int .u8 0, .int .u8 0, .int .u8 0, .int .u8 0, .int .u8 0, .int .u8 0, .int .u8 0, .int .u8 0, .int .u8 0, .int .u8 0, .int .u8 0, .int .u8 0, .int .u8 0, .int .u8 0, .int .u8 0, .int .u8 0, .int .u8 0, .int .u8 0, .int .u8 0, .int .u8 0, .int .u8 0, .int .u8 0, .int .u8 0, .int .u8 0, .int .u8 0, .int .u8 0, .int .u8 0, .int .u8 0, .int .u8 0, .int .u8 0, .int .u8 0, .int .u8 0, .int .u8 0, .int .u8 0, .int .u8 0, .int .u8 0, .int .u8 0, .int .u8 0, .int .u8 0, .int .u8 0, .int .u8 0, .int .u8 0, .int .u8 0, .int .u8 0, .int .u8 0, .int .u8 0, .int .u8 0, .int .u8 0, .int .u8 0, .int .u8 0, .int .u8 0, .int .u8 0, .int .u8 0, .int .u8 0, .int .u8 0, .int .u8 0, .int .u8 0, .int .u8 0, .int .u8 0, .int .u8 0, .int .u8 0, .int .u8 0, .int .u8 0, .int .u8 0] 48)
  rw [← hW0] at k1 k2 hb0 s0 ⊢
  rw [← z64_lit] at k1 k2
  clear hW0
  have ha1 : NRead W0.drew a m ns := ha.below (hb0.drew)
  go_region_law (first
    | (go_simp; go_at_call 43; refine (put_any _ _ _ ns W0.drew ha1 hok hm).mono ?_; rintro e w1 ⟨s, rfl, hown, hbp⟩; obtain ⟨sp, sc, rfl⟩ := owns_shape hown; have g1 := (hbp.block w.heap.size (by simp; omega)).trans k1; have g2 := (hbp.block (w.heap.size + 1) (by simp; omega)).trans k2; have hpos := owns_pos hown)
    | (refine step_copy_splice rfl (.tmp 4) (.tmp 6) 22 22 rfl 5 Tryd.underlying22 info5s (some ⟨w.heap.size + 1, 0, none⟩) sp 64 64 (putL ns).length sc rfl rfl (w.heap.size + 1) 0 z64 48 g2 (u8s (putL ns)) (by rw [u8s_len]; exact (Nat.min_eq_left hl).symm) (fun h => ⟨rfl, hpos (by rw [u8s_len] at h; exact h)⟩) (by rw [u8s_len, z64_len]; omega) (many_u8 _) (w.heap.size + 1) w1 (Below.refl _ _) (Nat.le_refl _) ?_; intro w4 hg4 hb4))
  have g3 : w4.heap[w.heap.size]? = some (.cells z64.toArray 48 (0, 0)) := (hb4.block w.heap.size (by omega)).trans g1
  have hg5 := hg4.out
  rw [splice_pad (putL ns) hl] at hg5
  have hX : (u8s (padL (putL ns) 64)).toArray.size = 64 := by rw [List.size_toArray, u8s_len, padL_len _ _ hl]
  have h1X : (u8s (padL (putL ns) 64)).toArray.all (·.oneCell') = true := by
    rw [Array.all_eq_true_iff_forall_mem]
    intro x hx
    exact many_u8 _ x (by simpa using hx)
  have hb5 : Below w.heap.size w w4 := ((hb0.drew).trans (hbp.mono (by simp; omega))).trans (hb4.mono (by omega))
  generalize hXe : (u8s (padL (putL ns) 64)).toArray = X at *
  have HXe : Hid ((u8s (padL (putL ns) 64)).toArray = X) := hXe
  clear hXe
  clear hg4 hb4 g1 g2 hpos hown hbp k1 k2 hb0 ha1
  go_wp2_with (first
    | (refine wpList_load_row rfl 48 _ rfl (w.heap.size + 1) rfl 48 X (0, 0) _ hg5 Tryd.underlying48 rfl (by rw [hX]; exact info48b) ?_)
    | (refine wpList_store_row rfl 48 _ _ rfl w.heap.size X rfl rfl 48 _ g3 (by rw [hX]; exact info48b) (by rw [hX]; rfl) h1X ?_))
  refine bodyPost_ret (v := .agg X) (results_cell_row Tryd.results32 _ _ w.heap.size 48 X (0, 0) _ rfl (setRow_heap w4 w.heap.size _ X 48 _ g3) Tryd.underlying48 rfl (by rw [hX]; exact info48b)) rfl ?_
  exact ⟨by rw [HXe.out], below_setRow hb5 (Nat.le_refl _) X⟩
end Go.Proofs.YtkkammbfomiofabDoor
