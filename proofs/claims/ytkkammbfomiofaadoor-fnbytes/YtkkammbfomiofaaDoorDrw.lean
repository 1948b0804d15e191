/-
  The source of draws: l1Next.
-/
import Derived.Test.YtkkammbfomiofaaDoorHds
namespace Go.Proofs.YtkkammbfomiofaaDoor
open Go.RowKit
set_option linter.unusedSimpArgs false
set_option linter.unusedVariables false

/-- A source of draws lies in block B. -/
def Src (w : World) (B : Nat) : Prop := ∃ (a : Option Addr) (n c : Nat) (pos mix size : Int) (xs : List Int),
  w.heap[B]? = some (.cells #[.slice a n c, .int .i64 pos, .int .i64 mix, .int .i64 size] 80 (0, 0)) ∧ Row .u8 (fun g => g ≠ B) w a n xs ∧ (∀ i, i < n → 0 ≤ xs[i]?.getD 0 ∧ xs[i]?.getD 0 ≤ 255) ∧
  (0 ≤ pos ∧ pos ≤ n ∧ n ≤ 4000) ∧ (0 ≤ mix ∧ mix ≤ 1000002) ∧ 1 ≤ size ∧ size ≤ 7
theorem Src.lt {w : World} {B : Nat} (h : Src w B) : B < w.heap.size := by
  obtain ⟨a, n, c, pos, mix, size, xs, h, _⟩ := h
  exact (Array.getElem?_eq_some_iff.1 h).1
theorem Src.below {w w' : World} {B : Nat} (h : Src w B) (hb : Below w.heap.size w w') : Src w' B := by
  have hl := h.lt
  obtain ⟨a, n, c, pos, mix, size, xs, h, r, q⟩ := h
  exact ⟨a, n, c, pos, mix, size, xs, (hb.block B hl).trans h, r.below hb, q⟩
theorem Src.drewN {w : World} {B : Nat} (h : Src w B) (d : Nat) : Src (w.drewN d) B := h
theorem cells4s {w : World} {g : Nat} {t : TypeId} {x0 x1 x2 x3 : Value} (k1 : w.heap[g]? = some (.cells #[x0, x1, x2, x3] t (0, 0))) :
    (w.cell? ⟨g, 0, none⟩ = some x0 ∧ w.cell? ⟨g, 1, none⟩ = some x1 ∧ w.cell? ⟨g, 2, none⟩ = some x2 ∧ w.cell? ⟨g, 3, none⟩ = some x3) ∧ w.frozen? ⟨g, 0, none⟩ = false ∧ w.frozen? ⟨g, 1, none⟩ = false ∧ w.frozen? ⟨g, 2, none⟩ = false ∧ w.frozen? ⟨g, 3, none⟩ = false := by
  refine ⟨⟨?_, ?_, ?_, ?_⟩, ?_, ?_, ?_, ?_⟩
  · rw [cell_of_row w g 0 _ _ _ k1]; rfl
  · rw [cell_of_row w g 1 _ _ _ k1]; rfl
  · rw [cell_of_row w g 2 _ _ _ k1]; rfl
  · rw [cell_of_row w g 3 _ _ _ k1]; rfl
  all_goals simp [World.frozen?, k1]
theorem src_pos {w : World} {B : Nat} {t : TypeId} {x0 x1 x2 x3 : Value} (k : w.heap[B]? = some (.cells #[x0, x1, x2, x3] t (0, 0))) (v : Value) : (w.setCell ⟨B, 1, none⟩ v).heap[B]? = some (.cells #[x0, v, x2, x3] t (0, 0)) := by
  simp [World.setCell, Array.getElem?_modify, k]
theorem src_mix {w : World} {B : Nat} {t : TypeId} {x0 x1 x2 x3 : Value} (k : w.heap[B]? = some (.cells #[x0, x1, x2, x3] t (0, 0))) (v : Value) : (w.setCell ⟨B, 2, none⟩ v).heap[B]? = some (.cells #[x0, x1, v, x3] t (0, 0)) := by
  simp [World.setCell, Array.getElem?_modify, k]

set_option maxHeartbeats 4000000 in
set_option maxRecDepth 100000 in
theorem l1Next_any (B : Nat) (m : Int) (w : World) (h : Src w B) (h1 : 2 ≤ m) (h2 : m ≤ 1000000) :
    Calls Tryd.prog 40 #[.pointer (some ⟨B, 0, none⟩), .int .i64 m] w fun e w' => ∃ v, e = .returned (.int .i64 v) ∧ (0 ≤ v ∧ v < m) ∧ Src w' B ∧ Kept (fun g => g = B) w w' := by
  obtain ⟨a, n, c, pos, mix, size, xs, k, r, hby, ⟨p0, p1, p2⟩, ⟨m0, m1⟩, z0, z1⟩ := h
  obtain ⟨⟨c0, c1, c2, c3⟩, f0, f1, f2, f3⟩ := cells4s k
  have HK : Hid (w.heap[B]? = some (.cells #[.slice a n c, .int .i64 pos, .int .i64 mix, .int .i64 size] 80 (0, 0))) := k
  have HR : Hid (Row .u8 (fun g => g ≠ B) w a n xs) := r
  have HB : Hid (∀ i, i < n → 0 ≤ xs[i]?.getD 0 ∧ xs[i]?.getD 0 ≤ 255) := hby
  clear k r hby
  have hk : ∀ (p : Nat) (v : Value) (d : Nat), Kept (fun g => g = B) w ((w.drewN d).setCell ⟨B, p, none⟩ v) := fun p v d => (Kept.drewN w d _).trans (Kept.setCell (w.drewN d) ⟨B, p, none⟩ v _ rfl)
  by_cases hu : pos < n ∧ m ≤ 256
  · obtain ⟨u1, u2⟩ := hu
    have d1 : decide (pos < (n : Int)) = true := decide_eq_true u1
    have d2 : decide (m ≤ 256) = true := decide_eq_true u2
    obtain ⟨P, rfl⟩ : ∃ P : Nat, pos = (P : Int) := ⟨pos.toNat, by omega⟩
    have hP : P < n := by omega
    obtain ⟨g, off, rfl, hg, hcx⟩ := HR.out.2.resolve_left (by omega)
    have cb := (hcx P hP).1
    have hb := HB.out P hP
    have HS : ∀ d, Hid (Src ((w.drewN d).setCell ⟨B, 1, none⟩ (.int .i64 ((P : Int) + 1))) B) := fun d => ⟨_, n, c, (P : Int) + 1, mix, size, xs, src_pos (w := w.drewN d) HK.out _, (HR.out.kept (hk 1 _ d) (fun g h1 h2 => h1 h2)), HB.out, ⟨by omega, by omega, p2⟩, ⟨m0, m1⟩, z0, z1⟩
    clear hcx
    generalize xs[P]?.getD 0 = x at *
    have q0 : 0 ≤ x % m := Int.emod_nonneg _ (by omega)
    have q1 : x % m < m := Int.emod_lt_of_pos _ (by omega)
    go_enter Tryd.func40, Tryd.ntmps40
    go_wp2
    go_quiet (fail)
    go_wp2
    go_quiet (fail)
    go_wp2
    go_ret
    simp only [World.drewN_drewN]
    exact ⟨_, rfl, ⟨q0, q1⟩, (HS _).out, hk _ _ _⟩
  · have y0 : 0 ≤ (mix * 1103 + 12347) % 1000003 := Int.emod_nonneg _ (by omega)
    have y1 : (mix * 1103 + 12347) % 1000003 < 1000003 := Int.emod_lt_of_pos _ (by omega)
    have HS : ∀ d, Hid (Src ((w.drewN d).setCell ⟨B, 2, none⟩ (.int .i64 ((mix * 1103 + 12347) % 1000003))) B) := fun d => ⟨_, n, c, pos, _, size, xs, src_mix (w := w.drewN d) HK.out _, (HR.out.kept (hk 2 _ d) (fun g h1 h2 => h1 h2)), HB.out, ⟨p0, p1, p2⟩, ⟨y0, by omega⟩, z0, z1⟩
    have q0 : 0 ≤ (mix * 1103 + 12347) % 1000003 / 3 % m := Int.emod_nonneg _ (by omega)
    have q1 : (mix * 1103 + 12347) % 1000003 / 3 % m < m := Int.emod_lt_of_pos _ (by omega)
    by_cases u1 : pos < (n : Int)
    · have d1 : decide (pos < (n : Int)) = true := decide_eq_true u1
      have d2 : decide (m ≤ 256) = false := decide_eq_false (fun h => hu ⟨u1, h⟩)
      have u2 : 256 < m := by simpa using d2
      go_enter Tryd.func40, Tryd.ntmps40
      go_wp2
      go_quiet (fail)
      go_wp2
      go_ret
      exact ⟨_, rfl, ⟨q0, q1⟩, (HS _).out, hk _ _ _⟩
    · have d1 : decide (pos < (n : Int)) = false := decide_eq_false u1
      go_enter Tryd.func40, Tryd.ntmps40
      go_wp2
      go_quiet (fail)
      go_wp2
      go_ret
      exact ⟨_, rfl, ⟨q0, q1⟩, (HS _).out, hk _ _ _⟩
end Go.Proofs.YtkkammbfomiofaaDoor
