/-
  NewDisk: the two functions, and the law.
-/
import Derived.Test.YtkkammbfomiofacDiskM
namespace Go.Proofs.Ytkkammbfomiofac
open Go.RowKit

/-- The bytes of a new disk. -/
def newD (b : Int) : List Int := if 1 ≤ b ∧ b ≤ 1200 then List.replicate (b.toNat * 64) 0 else []

theorem zeros_at (n i : Nat) : (List.replicate n (0 : Int))[i]?.getD 0 = 0 := by
  by_cases h : i < n <;> simp [h]


theorem two_cells {w1 : World} {g : Nat} {t : TypeId} {x y : Value} (h : w1.heap[g]? = some (.cells #[x, y] t (0, 0))) :
    w1.cell? ⟨g, 0, none⟩ = some x ∧ w1.cell? ⟨g, 1, none⟩ = some y ∧ w1.frozen? ⟨g, 0, none⟩ = false ∧ w1.frozen? ⟨g, 1, none⟩ = false := by
  refine ⟨by rw [cell_of_row w1 g 0 _ _ _ h]; rfl, by rw [cell_of_row w1 g 1 _ _ _ h]; rfl, ?_, ?_⟩ <;> simp [World.frozen?, h]

theorem newD_fin {w w1 : World} {n : Nat} {x y u v : Value} {b : Int} (hown : w1.ownsRow w.heap.size 5 1 (.slice (some ⟨w.heap.size + 1, 0, none⟩) (n * 64) (n * 64)) (n * 64) (madeCells #[.int .u8 0] (n * 64)).toList)
    (hgrow : (w.alloc (.cells #[x, y] 48)).grownBy w1 none) (HN : newD b = List.replicate (n * 64) 0) :
    Row .u8 (fun g => w.heap.size ≤ g ∧ g < ((w1.setCell ⟨w.heap.size, 0, none⟩ u).setCell ⟨w.heap.size, 1, none⟩ v).heap.size) ((w1.setCell ⟨w.heap.size, 0, none⟩ u).setCell ⟨w.heap.size, 1, none⟩ v) (some ⟨w.heap.size + 1, 0, none⟩) (n * 64) (newD b) ∧
    Below w.heap.size w ((w1.setCell ⟨w.heap.size, 0, none⟩ u).setCell ⟨w.heap.size, 1, none⟩ v) := by
  have hsz := made_size hown
  have e : ((w1.setCell ⟨w.heap.size, 0, none⟩ u).setCell ⟨w.heap.size, 1, none⟩ v).heap.size = w1.heap.size := by simp [World.setCell]
  constructor
  · have r : Row .u8 (fun g => g = w.heap.size + 1) w1 (some ⟨w.heap.size + 1, 0, none⟩) (n * 64) (newD b) := (made_cells hown).row rfl (by rw [HN]; simp) (by intro i _; rw [HN]; exact zeros_at _ _)
    have k1 : Kept (fun g => g = w.heap.size) w1 ((w1.setCell ⟨w.heap.size, 0, none⟩ u).setCell ⟨w.heap.size, 1, none⟩ v) := (Kept.setCell w1 ⟨w.heap.size, 0, none⟩ u (fun g => g = w.heap.size) rfl).trans (Kept.setCell _ ⟨w.heap.size, 1, none⟩ v (fun g => g = w.heap.size) rfl)
    exact (r.kept k1 (fun j h1 h2 => by omega)).mono (fun g hg => by rw [e]; omega)
  · have h1 : Below w.heap.size w w1 := ((Below.refl _ _).alloc (Nat.le_refl _) _).trans ((Below.of_grown hgrow).mono (by simp))
    exact (h1.setCell (Nat.le_refl _) _).setCell (Nat.le_refl _) _

set_option maxRecDepth 100000 in
theorem newDisk_impl (b : Int) (w : World) :
    Calls Try.prog 63 #[.int .i64 b] w fun e w' => ∃ a n, e = .returned (.agg #[.slice a n n, .slice none 0 0]) ∧ Row .u8 (fun g => w.heap.size ≤ g ∧ g < w'.heap.size) w' a n (newD b) ∧ n ≤ 76800 ∧ Below w.heap.size w w' := by
  obtain ⟨i0, hi, hz0, hz1, hz2⟩ := info_parts info5
  by_cases hv : 1 ≤ b ∧ b ≤ 1200
  · obtain ⟨n, rfl⟩ := Int.eq_ofNat_of_zero_le (show 0 ≤ b by omega)
    have HN : Hid (newD (n : Int) = List.replicate (n * 64) 0) := by show _ = _; simp only [newD, if_pos hv, Int.toNat_natCast]
    obtain ⟨v1, v2⟩ := hv
    go_enter Try.func63, Try.ntmps63
    go_wp2_with (at_make; refine wpList_make_full _ rfl _ _ 24 rfl w.heap.size 5 i0 (.int .u8 0) 1 Try.underlying24 hi hz0 hz1 .i64 .i64 _ _ (n * 64) rfl rfl (by omega) (by omega) ?c1 ?c2 ?c3 ?_)
    case c1 => rw [hz2]; omega
    case c2 => unfold maxLen; omega
    case c3 => simp
    intro w1 hown hgrow
    obtain ⟨q1, q2, q3, q4⟩ := two_cells ((hgrow.block w.heap.size (by simp) (by simp)).trans (heap_alloc_new w _))
    have hfin := @newD_fin w w1 n _ _ (.slice (some ⟨w.heap.size + 1, 0, none⟩) (n * 64) (n * 64)) (.slice none 0 0) _ hown hgrow HN.out
    clear hown hgrow hi hz0 hz1 hz2
    go_wp2
    refine bodyPost_ret (v := .agg #[.slice (some ⟨w.heap.size + 1, 0, none⟩) (n * 64) (n * 64), .slice none 0 0]) (by simp [results, Try.results63, go_sem, q1, q2]) rfl ?_
    exact ⟨_, _, rfl, hfin.1, by omega, hfin.2⟩
  · have HN : Hid (newD b = []) := by show _ = _; simp only [newD, if_neg hv]
    clear hi hz0 hz1 hz2
    by_cases h1 : b < 1
    · go_enter Try.func63, Try.ntmps63
      go_wp2
      refine bodyPost_ret (v := .agg #[.slice none 0 0, .slice none 0 0]) (by simp [results, Try.results63, go_sem]) rfl ?_
      exact ⟨_, _, rfl, ⟨by rw [HN.out]; rfl, .inl rfl⟩, by omega, (Below.refl _ _).alloc (Nat.le_refl _) _⟩
    · have h2 : 1200 < b := by omega
      go_enter Try.func63, Try.ntmps63
      go_wp2
      refine bodyPost_ret (v := .agg #[.slice none 0 0, .slice none 0 0]) (by simp [results, Try.results63, go_sem]) rfl ?_
      exact ⟨_, _, rfl, ⟨by rw [HN.out]; rfl, .inl rfl⟩, by omega, (Below.refl _ _).alloc (Nat.le_refl _) _⟩

end Go.Proofs.Ytkkammbfomiofac
