/-
  The specification's SegmentCounts.
-/
import Derived.Test.YtkkammbfomiofacSeg
import Derived.Deep.RegionWith
import Derived.Deep.CutRange
namespace Go.Proofs.Ytkkammbfomiofac
open Go.RowKit
set_option linter.unusedSimpArgs false
set_option linter.unusedVariables false

theorem w64 {x : Int} (h0 : 0 ≤ x) (h1 : x ≤ 4611686018427387904) : IntKind.i64.wrap x = x := by
  rw [IntKind.wrap_i64]; omega
def i64s (xs : List Int) : List Value := xs.map (Value.int .i64)
theorem i64s_len (xs : List Int) : (i64s xs).length = xs.length := by simp [i64s]
theorem owns_i64 {w : World} {B n : Nat} {v : Value} {xs : List Int} (h : w.ownsRow B 2 1 v n (i64s xs)) : ∃ a c, v = .slice a n c ∧ Row .i64 (fun g => B ≤ g ∧ g < w.heap.size) w a n xs := by
  have hl : xs.length = n := by have := h.1; rw [i64s_len] at this; omega
  have h' := h
  rcases h.2 with ⟨rfl, h0⟩ | ⟨g, cap, cur, rfl, hB, hg, hc, hm, hsz, ht⟩
  · exact ⟨none, 0, by rw [h0], hl, .inl h0⟩
  · refine ⟨some ⟨g, 0, none⟩, cap, rfl, hl, .inr ⟨g, 0, rfl, ⟨hB, (Array.getElem?_eq_some_iff.1 hg).1⟩, fun i hi => ⟨?_, by rw [Nat.zero_add]; exact h'.frozenAt i⟩⟩⟩
    rw [Nat.zero_add, h'.cellAt _ (by omega)]
    simp [i64s, show i < xs.length from by omega]
theorem one_cellS {w : World} {x : Value} {t : TypeId} : ∀ j u, [x][j]? = some u → (w.alloc (.cells #[x] t)).cell? ((⟨w.heap.size, 0, none⟩ : Addr).add j) = some u := by
  intro j u hj
  match j, hj with
  | 0, hj => simp at hj; subst hj; simp [Addr.add]
theorem one_i64S (x : Int) : ∀ u ∈ [Value.int .i64 x], u.oneCell' = true := by intro u hu; simp at hu; subst hu; rfl
theorem owns_shapeS {w : World} {B e sz n : Nat} {v : Value} {xs : List Value} (h : w.ownsRow B e sz v n xs) : ∃ a c, v = .slice a n c := by
  rcases h.2 with ⟨rfl, h0⟩ | ⟨g, cap, cur, rfl, _⟩
  · exact ⟨none, 0, by rw [h0]⟩
  · exact ⟨_, _, rfl⟩
theorem owns_belowS {w w' : World} {B e sz n : Nat} {s : Value} {xs : List Value} (h : w.ownsRow B e sz s n xs) (hb : Below w.heap.size w w') : w'.ownsRow B e sz s n xs :=
  h.kept (row := none) ⟨hb.os, hb.tape, hb.output, hb.size, fun k hk _ => hb.block k hk⟩ (by cases hv : s.ownBlock <;> simp)

set_option maxHeartbeats 1000000 in
theorem specCounts_bad (a : Option Addr) (n ca : Nat) (s b : Int) (w : World) (hv : vG s b = false) :
    Calls Try.prog 32 #[.slice a n ca, .agg #[.int .i64 s, .int .i64 b]] w fun e w' => ∃ a' c', e = .returned (.slice a' 0 c') ∧ Below w.heap.size w w' := by
  have h2 : ∀ o1 o2, Below w.heap.size w ((w.alloc o1).alloc o2) := fun o1 o2 => ((Below.refl _ _).alloc (Nat.le_refl _) _).alloc (by simp) _
  go_enter Try.func32, Try.ntmps32
  go_wp2_with fail
  refine (l3Good_any s b _).mono ?_
  rintro e w1 ⟨rfl, hb1⟩
  rw [hv]
  have hB1 : Below w.heap.size w w1 := (h2 _ _).trans (hb1.mono (by simp; omega))
  clear hb1 h2
  go_wp2
  go_ret
  exact ⟨_, _, rfl, hB1⟩

set_option maxHeartbeats 4000000 in
set_option maxRecDepth 100000 in
theorem specCounts_good (a : Option Addr) (n ca : Nat) (es : List (Int × Bool)) (S : Nat) (b : Int) (w : World) (ha : ERead w a n es) (hn : n ≤ 2097152) (hv : vG (S : Int) b = true) :
    Calls Try.prog 32 #[.slice a n ca, .agg #[.int .i64 (S : Int), .int .i64 b]] w fun e w' => ∃ a' c', e = .returned (.slice a' S c') ∧ Row .i64 (fun g => w.heap.size ≤ g ∧ g < w'.heap.size) w' a' S (segL (logN S b) b es S n) ∧ Below w.heap.size w w' := by
  obtain ⟨i0, hi, hz0, hz1, hz2⟩ := info_parts info2
  have HA : Hid (ERead w a n es) := ha
  obtain ⟨v1, v2, v3, v4⟩ := vG_yes hv
  obtain ⟨l1, l2⟩ := logN_bounds hv
  have hL := layout_spec (S : Int) b
  rw [layA_yes hv] at hL
  have mB : ∀ s : Nat, s < S → 0 ≤ (s : Int) * b ∧ (s : Int) * b ≤ 1024 := fun s hs => ⟨Int.mul_nonneg (by omega) (by omega), by
    have c : (s : Int) * b ≤ 64 * 16 := Int.mul_le_mul (by omega) v4 (by omega) (by omega)
    omega⟩
  have MB : Hid (∀ s : Nat, s < S → 0 ≤ (s : Int) * b ∧ (s : Int) * b ≤ 1024) := mB
  clear ha mB
  generalize nblk (2 * ((S : Int) * b)) = T at *
  generalize logN (S : Int) b = L at *
  generalize (S : Int) * b = P at *
  go_enter Try.func32, Try.ntmps32
  go_wp2_with fail
  refine (l3Good_any (S : Int) b _).mono ?_
  rintro e w1 ⟨rfl, hb1⟩
  rw [hv]
  obtain ⟨k1, k2, hB1⟩ := two_kept hb1
  clear hb1 hv
  go_wp2
  go_loopw [5, 6] (fun o i wr => ∃ k : Nat, k ≤ S ∧ i = .int .i64 k ∧ wr.ownsRow (w.heap.size + 1) 2 1 o k (i64s (segL L b es k n)) ∧ wr.heap[w.heap.size]? = some (.cells #[.int .i64 (S : Int), .int .i64 b] 42 (0, 0)) ∧ Below w.heap.size w wr) (fun _ i _ => S - (intOf i).toNat)
  case atStart => exact ⟨0, Nat.zero_le _, rfl, ⟨rfl, .inr ⟨_, 0, #[], rfl, Nat.le_refl _, k2, Nat.le_refl _, Nat.zero_le _, rfl, rfl⟩⟩, k1, hB1⟩
  case round =>
    obtain ⟨k, hk, rfl, own3, k3, hB3⟩ := hrel
    clear k1 k2 hB1
    have z3 := (Array.getElem?_eq_some_iff.1 k3).1
    obtain ⟨⟨g0, g1⟩, _, _⟩ := cells2g k3
    obtain ⟨a3, c3, rfl⟩ := owns_shapeS own3
    by_cases hlt : k < S
    · obtain ⟨b1, b2⟩ := MB.out k hlt
      have hfd : ∀ v : World, (Instr.field 40 (.agg #[.int .i64 P, .int .i64 T, .int .i64 L, .int .i64 (L + P), .int .i64 (P - 2 * b)]) 2).run Try.prog v = .ok (.int .i64 L) v := fun _ => by kernel_rfl
      go_wp2_with fail
      go_cut [7] from 21 to 28 (fun f wx => f = .int .i64 (L + (k : Int) * b) ∧ Below wr.heap.size wr wx)
      case first =>
        go_region_with (go_at_call 22; refine (hL wr.drew).mono ?_; rintro e w4 ⟨rfl, hb4⟩; obtain ⟨⟨q0, q1⟩, _, _⟩ := cells2g ((hb4.block w.heap.size z3).trans k3))
        all_goals go_wp2_with fail
        all_goals go_meet
        all_goals exact ⟨by rw [w64 b1 (by omega), w64 (by omega) (by omega)], ((Below.refl _ _).drew).trans hb4⟩
      case rest =>
        obtain ⟨rfl, hb4⟩ := hcut
        have own4 := owns_belowS own3 hb4
        have k4 := (hb4.block w.heap.size z3).trans k3
        have hB4 := hB3.trans (hb4.mono hB3.size)
        have z4 := (Array.getElem?_eq_some_iff.1 k4).1
        clear own3 k3 hB3 g0 g1 hb4 hfd hL
        obtain ⟨⟨g0, g1⟩, _, _⟩ := cells2g k4
        go_wp2
        go_loopw [8, 9] (fun m i wq => ∃ j : Nat, j ≤ n ∧ m = .int .i64 (cntS L b es k j : Int) ∧ i = .int .i64 j ∧ ∃ d, wq = wc.drewN d) (fun _ i _ => n - (intOf i).toNat)
        case atStart => exact ⟨0, Nat.zero_le _, rfl, rfl, 0, rfl⟩
        case round =>
          obtain ⟨j, hj, rfl, rfl, d, rfl⟩ := hrel
          have hcl := cntS_le L b es k j
          have HC := cntS_succ L b es k j
          by_cases hjn : j < n
          · obtain ⟨g, off, rfl, _⟩ := HA.out.2.resolve_left (by omega)
            obtain ⟨c1, c2⟩ := HA.out.cellsAt hB4 j hjn
            have hj' : (j : Int) < (n : Int) := by omega
            have hj0 : (0 : Int) ≤ (j : Int) := by omega
            by_cases e1 : L + (k : Int) * b ≤ eA es j
            · have u1 : decide (L + (k : Int) * b ≤ eA es j) = true := decide_eq_true e1
              by_cases e2 : eA es j < L + (k : Int) * b + b
              · have u2 : decide (eA es j < L + (k : Int) * b + b) = true := decide_eq_true e2
                have HS : Hid (cntS L b es k (j + 1) = cntS L b es k j + 1) := by
                  show _ = _
                  rw [HC, if_pos (by simp [segB, e1, e2])]
                clear HC
                go_wp2
                go_quiet (fail)
                go_wp2
                go_roundw
                case rel => exact ⟨j + 1, by omega, by rw [HS.out]; go_num, by go_num, _, rfl⟩
                case measure => simp [intOf]; omega
              · have u2 : decide (eA es j < L + (k : Int) * b + b) = false := decide_eq_false e2
                have HS : Hid (cntS L b es k (j + 1) = cntS L b es k j) := by
                  show _ = _
                  rw [HC, if_neg (by simp [segB, e1, e2])]; simp
                clear HC
                go_wp2
                go_quiet (fail)
                go_wp2
                go_roundw
                case rel => exact ⟨j + 1, by omega, by rw [HS.out], by go_num, _, rfl⟩
                case measure => simp [intOf]; omega
            · have u1 : decide (L + (k : Int) * b ≤ eA es j) = false := decide_eq_false e1
              have HS : Hid (cntS L b es k (j + 1) = cntS L b es k j) := by
                show _ = _
                rw [HC, if_neg (by simp [segB, e1])]; simp
              clear HC
              go_wp2
              go_quiet (fail)
              go_wp2
              go_roundw
              case rel => exact ⟨j + 1, by omega, by rw [HS.out], by go_num, _, rfl⟩
              case measure => simp [intOf]; omega
          · have hjn' : j = n := by omega
            subst hjn'
            have HS : Hid (i64s (segL L b es (k + 1) j) = i64s (segL L b es k j) ++ [.int .i64 (cntS L b es k j : Int)]) := by show _ = _; rw [segL_succ]; simp [i64s]
            have o4 : (wc.drewN d).ownsRow (w.heap.size + 1) 2 1 (.slice a3 k c3) k (i64s (segL L b es k j)) := own4
            have hB5 : Below w.heap.size w (wc.drewN d) := below_drewN hB4 d
            have k5 : (wc.drewN d).heap[w.heap.size]? = some (.cells #[.int .i64 (S : Int), .int .i64 b] 42 (0, 0)) := k4
            clear HC own4 hB4 k4 g0 g1
            generalize wc.drewN d = w5 at *
            have s5 := hB5.size
            have z5 := (Array.getElem?_eq_some_iff.1 k5).1
            generalize cntS L b es k j = N at *
            go_wp2_with (at_builtin; refine wpList_append_own _ rfl _ _ 54 rfl (w.heap.size + 1) 2 i0 (.int .i64 0) 1 8 Try.underlying54 hi hz0 hz1 hz2 rfl (by decide) _ _ _ rfl (o4.alloc _) ⟨w5.heap.size, 0, none⟩ 1 1 [.int .i64 (N : Int)] rfl rfl one_cellS (one_i64S _) (by unfold maxLen; omega) (by omega) (by simp; omega) ?_)
            intro o6 w6 own6 grow6 _
            have hB6 : Below w.heap.size w w6 := (hB5.alloc s5 _).grown grow6 (by simp; omega) (fun q hq => by have := (o4.lt q hq).1; omega)
            have k6 := ((grow6.block _ (by simp; omega) (fun e => by have := (o4.lt _ e.symm).1; omega)).trans (heap_alloc_old w5 _ z5)).trans k5
            have own7 : w6.ownsRow (w.heap.size + 1) 2 1 o6 (k + 1) (i64s (segL L b es (k + 1) j)) := by rw [HS.out]; exact own6
            clear own6 o4 grow6 hB5 k5 HS
            go_wp2
            go_roundw
            case rel => exact ⟨k + 1, by omega, by go_num, own7, k6, hB6⟩
            case measure => simp [intOf]; omega
    · have hks : k = S := by omega
      subst hks
      obtain ⟨a', c', e, hr⟩ := owns_i64 own3
      injection e with e1 e2 e3
      subst e1
      have hr' := hr.mono (G' := fun g => w.heap.size ≤ g ∧ g < wr.heap.size) (fun g hg => by omega)
      clear own3 hr
      go_wp2
      go_ret
      exact ⟨_, ⟨_, rfl⟩, hr', hB3⟩
end Go.Proofs.Ytkkammbfomiofac
