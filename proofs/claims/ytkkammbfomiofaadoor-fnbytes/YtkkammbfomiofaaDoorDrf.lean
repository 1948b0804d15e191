/-
  The source of draws as a function: l1Next.
-/
import Derived.Test.YtkkammbfomiofaaDoorDrs
namespace Go.Proofs.YtkkammbfomiofaaDoor
open Go.RowKit
set_option linter.unusedSimpArgs false
set_option linter.unusedVariables false

/-- What a source of draws holds. -/
structure SV where
  xs : List Int
  pos : Int
  mix : Int
  size : Int
def SV.ok (s : SV) : Prop := (∀ i, i < s.xs.length → 0 ≤ s.xs[i]?.getD 0 ∧ s.xs[i]?.getD 0 ≤ 255) ∧ (0 ≤ s.pos ∧ s.pos ≤ s.xs.length ∧ s.xs.length ≤ 4000) ∧ (0 ≤ s.mix ∧ s.mix ≤ 1000002) ∧ 1 ≤ s.size ∧ s.size ≤ 7
/-- The next draw. -/
def SV.next (s : SV) (m : Int) : Int := if m ≤ 1 then 0 else if s.pos < (s.xs.length : Int) ∧ m ≤ 256 then s.xs[s.pos.toNat]?.getD 0 % m else (s.mix * 1103 + 12347) % 1000003 / 3 % m
/-- The source behind it. -/
def SV.rest (s : SV) (m : Int) : SV := if m ≤ 1 then s else if s.pos < (s.xs.length : Int) ∧ m ≤ 256 then { s with pos := s.pos + 1 } else { s with mix := (s.mix * 1103 + 12347) % 1000003 }
theorem SV.rest_ok {s : SV} (h : s.ok) (m : Int) : (s.rest m).ok := by
  obtain ⟨h1, ⟨h2, h3, h4⟩, ⟨h5, h6⟩, h7⟩ := h
  unfold SV.rest
  split
  · exact ⟨h1, ⟨h2, h3, h4⟩, ⟨h5, h6⟩, h7⟩
  · split
    · exact ⟨h1, ⟨by simp only; omega, by simp only; omega, h4⟩, ⟨h5, h6⟩, h7⟩
    · exact ⟨h1, ⟨h2, h3, h4⟩, ⟨Int.emod_nonneg _ (by omega), by have := Int.emod_lt_of_pos (s.mix * 1103 + 12347) (show (0 : Int) < 1000003 by omega); simp only; omega⟩, h7⟩
theorem SV.next_range {s : SV} {m : Int} (h : 1 ≤ m) : 0 ≤ s.next m ∧ s.next m < m := by
  unfold SV.next
  split
  · omega
  · split
    · exact ⟨Int.emod_nonneg _ (by omega), Int.emod_lt_of_pos _ (by omega)⟩
    · exact ⟨Int.emod_nonneg _ (by omega), Int.emod_lt_of_pos _ (by omega)⟩

/-- The source s lies in block B, all of it below N. -/
def SrcF (w : World) (B N : Nat) (s : SV) : Prop := ∃ (a : Option Addr) (c : Nat),
  w.heap[B]? = some (.cells #[.slice a s.xs.length c, .int .i64 s.pos, .int .i64 s.mix, .int .i64 s.size] 80 (0, 0)) ∧ Row .u8 (fun g => g ≠ B ∧ g < N) w a s.xs.length s.xs ∧ s.ok
theorem SrcF.lt {w : World} {B N : Nat} {s : SV} (h : SrcF w B N s) : B < w.heap.size := by
  obtain ⟨a, c, h, _⟩ := h
  exact (Array.getElem?_eq_some_iff.1 h).1
theorem SrcF.below {w w' : World} {B N : Nat} {s : SV} (h : SrcF w B N s) (hb : Below w.heap.size w w') : SrcF w' B N s := by
  have hl := h.lt
  obtain ⟨a, c, h, r, q⟩ := h
  exact ⟨a, c, (hb.block B hl).trans h, r.below hb, q⟩
theorem SrcF.drewN {w : World} {B N : Nat} {s : SV} (h : SrcF w B N s) (d : Nat) : SrcF (w.drewN d) B N s := h

theorem SrcF.kept {w w' : World} {B N : Nat} {s : SV} {G : Nat → Prop} (h : SrcF w B N s) (hk : Kept G w w') (hB : ¬ G B) (hG : ∀ g, g < N → ¬ G g) : SrcF w' B N s := by
  have hl := h.lt
  obtain ⟨a, c, h, r, q⟩ := h
  exact ⟨a, c, (hk.block B hl hB).trans h, r.kept hk (fun g hg => hG g hg.2), q⟩
theorem Row.lts {k : IntKind} {G : Nat → Prop} {w : World} {a : Option Addr} {n : Nat} {xs : List Int} (h : Row k G w a n xs) : Row k (fun g => G g ∧ g < w.heap.size) w a n xs := by
  refine ⟨h.1, ?_⟩
  by_cases h0 : n = 0
  · exact .inl h0
  · obtain ⟨g, off, e, hg, hc⟩ := h.2.resolve_left h0
    exact .inr ⟨g, off, e, ⟨hg, World.block_lt_of_cell? w _ (hc 0 (by omega)).1⟩, hc⟩

set_option maxHeartbeats 4000000 in
set_option maxRecDepth 100000 in
theorem l1NextF_any (B N : Nat) (m : Int) (s : SV) (w : World) (h : SrcF w B N s) (h0 : 0 ≤ m) (h2 : m ≤ 1000000) :
    Calls Tryd.prog 40 #[.pointer (some ⟨B, 0, none⟩), .int .i64 m] w fun e w' => e = .returned (.int .i64 (s.next m)) ∧ SrcF w' B N (s.rest m) ∧ Kept (fun g => g = B) w w' := by
  by_cases h1 : 2 ≤ m
  rotate_left
  · have E1 : Hid (s.next m = 0) := if_pos (by omega)
    have E2 : Hid (s.rest m = s) := if_pos (by omega)
    have HS : Hid (SrcF w B N s) := h
    have u0 : m ≤ 1 := by omega
    clear h h1
    go_enter Tryd.func40, Tryd.ntmps40
    go_wp2
    go_ret
    exact ⟨ret_int E1.out.symm, by rw [E2.out]; exact HS.out, Kept.drewN w 0 _⟩
  have hok := h
  obtain ⟨a, c, k, r, hk0⟩ := h
  have HOK : Hid (s.rest m).ok := SV.rest_ok hk0 m
  obtain ⟨hby, ⟨p0, p1, p2⟩, ⟨m0, m1⟩, z0, z1⟩ := hk0
  obtain ⟨xs, pos, mix, size⟩ := s
  simp only at *
  obtain ⟨n, hn⟩ : ∃ n, xs.length = n := ⟨_, rfl⟩
  have HN : Hid (xs.length = n) := hn
  rw [hn] at k r p1 p2 hby
  obtain ⟨⟨c0, c1, c2, c3⟩, f0, f1, f2, f3⟩ := cells4s k
  have HK : Hid (w.heap[B]? = some (.cells #[.slice a n c, .int .i64 pos, .int .i64 mix, .int .i64 size] 80 (0, 0))) := k
  have HR : Hid (Row .u8 (fun g => g ≠ B ∧ g < N) w a n xs) := r
  have HB : Hid (∀ i, i < n → 0 ≤ xs[i]?.getD 0 ∧ xs[i]?.getD 0 ≤ 255) := hby
  clear k r hby hn hok
  have hk : ∀ (p : Nat) (v : Value) (d : Nat), Kept (fun g => g = B) w ((w.drewN d).setCell ⟨B, p, none⟩ v) := fun p v d => (Kept.drewN w d _).trans (Kept.setCell (w.drewN d) ⟨B, p, none⟩ v _ rfl)
  by_cases hu : pos < n ∧ m ≤ 256
  · obtain ⟨u1, u2⟩ := hu
    have d1 : decide (pos < (n : Int)) = true := decide_eq_true u1
    have d2 : decide (m ≤ 256) = true := decide_eq_true u2
    obtain ⟨P, rfl⟩ : ∃ P : Nat, pos = (P : Int) := ⟨pos.toNat, by omega⟩
    have hP : P < n := by omega
    have E1 : Hid ((SV.mk xs P mix size).next m = xs[P]?.getD 0 % m) := by
      show _ = _
      unfold SV.next
      rw [if_neg (by omega), if_pos ⟨by rw [HN.out]; exact u1, u2⟩]
      simp
    have E2 : Hid ((SV.mk xs P mix size).rest m = SV.mk xs ((P : Int) + 1) mix size) := by
      show _ = _
      unfold SV.rest
      rw [if_neg (by omega), if_pos ⟨by rw [HN.out]; exact u1, u2⟩]
    obtain ⟨g, off, rfl, hg, hcx⟩ := HR.out.2.resolve_left (by omega)
    have cb := (hcx P hP).1
    have hb := HB.out P hP
    have HS : ∀ d, Hid (SrcF ((w.drewN d).setCell ⟨B, 1, none⟩ (.int .i64 ((P : Int) + 1))) B N ((SV.mk xs P mix size).rest m)) := fun d => by
      show SrcF _ _ _ _
      have := HOK.out
      rw [E2.out] at this ⊢
      exact ⟨some ⟨g, off, none⟩, c, by simp only; rw [HN.out]; exact src_pos (w := w.drewN d) HK.out _, by show Row _ _ _ _ xs.length xs; rw [HN.out]; exact HR.out.kept (hk 1 _ d) (fun g h1 h2 => h1.1 h2), this⟩
    clear hcx
    rw [E1.out]
    generalize xs[P]?.getD 0 = x at *
    go_enter Tryd.func40, Tryd.ntmps40
    go_wp2
    go_quiet (fail)
    go_wp2
    go_quiet (fail)
    go_wp2
    go_ret
    simp only [World.drewN_drewN]
    exact ⟨rfl, (HS _).out, hk _ _ _⟩
  · have E1 : Hid ((SV.mk xs pos mix size).next m = (mix * 1103 + 12347) % 1000003 / 3 % m) := by
      show _ = _
      unfold SV.next
      rw [if_neg (by omega), if_neg (by rw [HN.out]; exact hu)]
    have E2 : Hid ((SV.mk xs pos mix size).rest m = SV.mk xs pos ((mix * 1103 + 12347) % 1000003) size) := by
      show _ = _
      unfold SV.rest
      rw [if_neg (by omega), if_neg (by rw [HN.out]; exact hu)]
    have y0 : 0 ≤ (mix * 1103 + 12347) % 1000003 := Int.emod_nonneg _ (by omega)
    have y1 : (mix * 1103 + 12347) % 1000003 < 1000003 := Int.emod_lt_of_pos _ (by omega)
    have HS : ∀ d, Hid (SrcF ((w.drewN d).setCell ⟨B, 2, none⟩ (.int .i64 ((mix * 1103 + 12347) % 1000003))) B N ((SV.mk xs pos mix size).rest m)) := fun d => by
      show SrcF _ _ _ _
      have := HOK.out
      rw [E2.out] at this ⊢
      exact ⟨a, c, by simp only; rw [HN.out]; exact src_mix (w := w.drewN d) HK.out _, by show Row _ _ _ _ xs.length xs; rw [HN.out]; exact HR.out.kept (hk 2 _ d) (fun g h1 h2 => h1.1 h2), this⟩
    rw [E1.out]
    by_cases u1 : pos < (n : Int)
    · have d1 : decide (pos < (n : Int)) = true := decide_eq_true u1
      have d2 : decide (m ≤ 256) = false := decide_eq_false (fun h => hu ⟨u1, h⟩)
      have u2 : 256 < m := by simpa using d2
      go_enter Tryd.func40, Tryd.ntmps40
      go_wp2
      go_quiet (fail)
      go_wp2
      go_ret
      exact ⟨rfl, (HS _).out, hk _ _ _⟩
    · have d1 : decide (pos < (n : Int)) = false := decide_eq_false u1
      go_enter Tryd.func40, Tryd.ntmps40
      go_wp2
      go_quiet (fail)
      go_wp2
      go_ret
      exact ⟨rfl, (HS _).out, hk _ _ _⟩
end Go.Proofs.YtkkammbfomiofaaDoor
