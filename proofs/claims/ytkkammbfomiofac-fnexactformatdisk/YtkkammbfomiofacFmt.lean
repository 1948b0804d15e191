/-
  FormatDisk: what is wanted of l2Pad, NewDisk, regionStart at a disk's size.
-/
import Derived.Test.YtkkammbfomiofacNewI
import Derived.Test.YtkkammbfomiofacHds
import Derived.Test.YtkkammbfomiofacLayo
namespace Go.Proofs.Ytkkammbfomiofac
open Go.RowKit
set_option linter.unusedSimpArgs false
set_option linter.unusedVariables false

set_option maxHeartbeats 1000000 in
theorem l2Pad_big (a : Option Addr) (n ca m : Nat) (xs : List Int) (w : World) (ha : IRow .u8 w a n xs) (hn : n ≤ m) (hm : m ≤ 131072) :
    Calls Try.prog 50 #[.slice a n ca, .int .i64 m] w fun e w' => ∃ s, e = .returned s ∧ w'.ownsRow w.heap.size 5 1 s m (u8s (padL xs m)) ∧ Below w.heap.size w w' := by
  obtain ⟨i0, hi, hz0, hz1, hz2⟩ := info_parts info5
  have HX : Hid (xs.length = n) := ha.1
  go_enter Try.func50, Try.ntmps50
  go_wp2_with fail
  refine (l1Copy_any _ _ _ xs _ ha (by omega)).mono ?_
  rintro e w1 ⟨s, rfl, hown, hb⟩
  clear ha
  go_wp2
  obtain ⟨a1, c1, rfl⟩ := owns_shape hown
  go_loopw [5] (fun s wr => ∃ (k : Nat) (ad : Option Addr) (c : Nat), k ≤ m - n ∧ s = .slice ad (n + k) c ∧ wr.ownsRow w.heap.size 5 1 (.slice ad (n + k) c) (n + k) (u8s (xs ++ List.replicate k 0)) ∧ Below w.heap.size w wr) (fun s _ => m - lenOf s)
  case atStart => exact ⟨0, a1, c1, Nat.zero_le _, rfl, by simpa using hown, hb⟩
  case round =>
    obtain ⟨k, ad, c, hk, rfl, hown, hbel⟩ := hrel
    have hsz := hbel.size
    by_cases hlt : n + k < m
    · have HS : Hid (u8s (xs ++ List.replicate (k + 1) 0) = u8s (xs ++ List.replicate k 0) ++ [.int .u8 0]) := by
        show _ = _
        rw [List.replicate_succ', ← List.append_assoc, u8s_append]; rfl
      have hlt' : ((n : Int) + (k : Int)) < (m : Int) := by omega
      go_wp2_with (at_builtin; refine wpList_append_own _ rfl _ _ 24 rfl w.heap.size 5 i0 (.int .u8 0) 1 1 Try.underlying24 hi hz0 hz1 hz2 rfl (by decide) _ _ _ rfl (hown.alloc _) ⟨wr.heap.size, 0, none⟩ 1 1 [.int .u8 0] rfl rfl one_cell (one_u8 _) (by unfold maxLen; omega) (by omega) (by simp; omega) ?_)
      intro s' w3 hown3 hgrow _
      have hb3 : Below w.heap.size w w3 := (hbel.alloc hsz _).grown hgrow (by simp; omega) (fun k hk => (hown.lt k hk).1)
      have hown4 : w3.ownsRow w.heap.size 5 1 s' (n + (k + 1)) (u8s (xs ++ List.replicate (k + 1) 0)) := by rw [HS.out]; exact hown3
      obtain ⟨ad', c', hs'⟩ := owns_shape hown4
      rw [hs'] at hown4 ⊢
      clear hown3 hown hgrow HS hs'
      go_wp2
      go_roundw
      case rel => exact ⟨k + 1, ad', c', by omega, rfl, hown4, hb3⟩
      case measure => simp [lenOf]; omega
    · have hkm : n + k = m := by omega
      have hfin : wr.ownsRow w.heap.size 5 1 (.slice ad (n + k) c) m (u8s (padL xs m)) := by
        rw [padL, HX.out, show m - n = k from by omega, ← hkm]; exact hown
      have hge : ¬ ((n : Int) + (k : Int)) < (m : Int) := by omega
      have HK : Hid (n + k = m) := hkm
      clear hkm hown
      go_wp2
      go_ret
      exact ⟨_, rfl, hfin, hbel⟩

theorem made_block {w1 : World} {B g n e : Nat} (h : w1.ownsRow B e 1 (.slice (some ⟨g, 0, none⟩) n n) n (madeCells #[.int .u8 0] n).toList) : w1.heap[g]? = some (.cells (u8s (List.replicate n 0)).toArray e (0, 0)) := by
  have em : (madeCells #[Value.int .u8 0] n).toList = u8s (List.replicate n 0) := by rw [toList_madeCells_one]; simp [u8s]
  rw [em] at h
  rcases h.2 with ⟨h0, _⟩ | ⟨g', cap, cur, e1, hB, hg, hc, hm, hsz, ht⟩
  · cases h0
  · injection e1 with e1 e2 e3
    injection e1 with e1
    injection e1 with e1 _ _
    subst e1; subst e3
    rw [hg]
    rw [Nat.mul_one] at ht hsz
    rw [List.take_of_length_le (by simp [hsz])] at ht
    rw [← ht]

set_option maxRecDepth 100000 in
theorem newDisk_block (n : Nat) (w : World) (v1 : 1 ≤ n) (v2 : n ≤ 1200) :
    Calls Try.prog 63 #[.int .i64 (n : Int)] w fun e w' => e = .returned (.agg #[.slice (some ⟨w.heap.size + 1, 0, none⟩) (n * 64) (n * 64), .slice none 0 0]) ∧ w'.heap[w.heap.size + 1]? = some (.cells (u8s (List.replicate (n * 64) 0)).toArray 5 (0, 0)) ∧ Below w.heap.size w w' := by
  obtain ⟨i0, hi, hz0, hz1, hz2⟩ := info_parts info5
  have HN : Hid (newD (n : Int) = List.replicate (n * 64) 0) := by show _ = _; simp only [newD, if_pos (show 1 ≤ (n : Int) ∧ (n : Int) ≤ 1200 by omega), Int.toNat_natCast]
  go_enter Try.func63, Try.ntmps63
  go_wp2_with (at_make; refine wpList_make_full _ rfl _ _ 24 rfl w.heap.size 5 i0 (.int .u8 0) 1 Try.underlying24 hi hz0 hz1 .i64 .i64 _ _ (n * 64) rfl rfl (by omega) (by omega) ?c1 ?c2 ?c3 ?_)
  case c1 => rw [hz2]; omega
  case c2 => unfold maxLen; omega
  case c3 => simp
  intro w1 hown hgrow
  obtain ⟨q1, q2, q3, q4⟩ := two_cells ((hgrow.block w.heap.size (by simp) (by simp)).trans (heap_alloc_new w _))
  have hfin := @newD_fin w w1 n _ _ (.slice (some ⟨w.heap.size + 1, 0, none⟩) (n * 64) (n * 64)) (.slice none 0 0) _ hown hgrow HN.out
  have hblk := made_block hown
  have hbl2 : ∀ u v, ((w1.setCell ⟨w.heap.size, 0, none⟩ u).setCell ⟨w.heap.size, 1, none⟩ v).heap[w.heap.size + 1]? = some (.cells (u8s (List.replicate (n * 64) 0)).toArray 5 (0, 0)) := fun u v => (Below.heap_setCell _ _ _ _ (by show w.heap.size + 1 ≠ w.heap.size; omega)).trans ((Below.heap_setCell _ _ _ _ (by show w.heap.size + 1 ≠ w.heap.size; omega)).trans hblk)
  have HB : Hid (∀ u v, ((w1.setCell ⟨w.heap.size, 0, none⟩ u).setCell ⟨w.heap.size, 1, none⟩ v).heap[w.heap.size + 1]? = some (.cells (u8s (List.replicate (n * 64) 0)).toArray 5 (0, 0))) := hbl2
  clear hown hgrow hi hz0 hz1 hz2 hblk hbl2
  go_wp2
  refine bodyPost_ret (v := .agg #[.slice (some ⟨w.heap.size + 1, 0, none⟩) (n * 64) (n * 64), .slice none 0 0]) (by simp [results, Try.results63, go_sem, q1, q2]) rfl ?_
  exact ⟨rfl, HB.out _ _, hfin.2⟩

/-- The bytes of a formatted disk. -/
def fmtL (s b : Int) : List Int := padL (List.replicate (((1 + nblk (2 * (s * b))) * 64).toNat) 0 ++ hdrL 1 s b) (((logN s b + s * b) * 64).toNat)
def fmtR (s b : Int) : List Int := if vG s b = true then fmtL s b else []
theorem hdr_ok {s b : Int} (h : vG s b = true) : hdrB 1 s b = true := by
  obtain ⟨h1, h2, h3, h4⟩ := vG_yes h
  simp [hdrB, partB]; omega

theorem regionStart_any (x0 T x2 x3 x4 : Int) (w : World) (h0 : 0 ≤ T) (h1 : T ≤ 33) :
    Calls Try.prog 64 #[.int .i64 1, .agg #[.int .i64 x0, .int .i64 T, .int .i64 x2, .int .i64 x3, .int .i64 x4]] w fun e w' => e = .returned (.int .i64 (1 + T)) ∧ Below w.heap.size w w' := by
  go_enter Try.func64, Try.ntmps64
  go_wp2
  go_ret
  exact ⟨ret_int (by omega), (Below.refl _ _).alloc (Nat.le_refl _) _⟩

set_option maxHeartbeats 1000000 in
theorem specFmt_bad (s b : Int) (w : World) (hv : vG s b = false) :
    Calls Try.prog 26 #[.agg #[.int .i64 s, .int .i64 b]] w fun e w' => e = .returned (.agg #[.slice none 0 0, .slice none 0 0]) ∧ Below w.heap.size w w' := by
  go_enter Try.func26, Try.ntmps26
  go_wp2_with fail
  refine (l3Good_any s b _).mono ?_
  rintro e w1 ⟨rfl, hb1⟩
  rw [hv]
  obtain ⟨k0, k1, hB⟩ := two_kept hb1
  obtain ⟨⟨d0, d1⟩, f0, f1⟩ := cells2g k1
  clear hb1 k0 k1
  go_wp2
  refine bodyPost_ret (v := .agg #[.slice none 0 0, .slice none 0 0]) (by simp [results, Try.results26, go_sem, d0, d1]) rfl ?_
  exact ⟨rfl, (hB.setCell (p := ⟨w.heap.size + 1, 0, none⟩) (Nat.le_succ _) _).setCell (p := ⟨w.heap.size + 1, 1, none⟩) (Nat.le_succ _) _⟩
set_option maxHeartbeats 1000000 in
theorem implFmt_bad (s b : Int) (w : World) (hv : vG s b = false) :
    Calls Try.prog 27 #[.agg #[.int .i64 s, .int .i64 b]] w fun e w' => e = .returned (.agg #[.slice none 0 0, .slice none 0 0]) ∧ Below w.heap.size w w' := by
  go_enter Try.func27, Try.ntmps27
  go_wp2_with fail
  refine (validGeometry_any s b _).mono ?_
  rintro e w1 ⟨rfl, hb1⟩
  rw [hv]
  obtain ⟨k0, k1, hB⟩ := two_kept hb1
  obtain ⟨⟨d0, d1⟩, f0, f1⟩ := cells2g k1
  clear hb1 k0 k1
  go_wp2
  refine bodyPost_ret (v := .agg #[.slice none 0 0, .slice none 0 0]) (by simp [results, Try.results27, go_sem, d0, d1]) rfl ?_
  exact ⟨rfl, (hB.setCell (p := ⟨w.heap.size + 1, 0, none⟩) (Nat.le_succ _) _).setCell (p := ⟨w.heap.size + 1, 1, none⟩) (Nat.le_succ _) _⟩
end Go.Proofs.Ytkkammbfomiofac
