/-
  FreeLids: the iterator freeLids and its contract.
-/
import Derived.RangeFuncNested
import Derived.RangeFuncBox
import Derived.RangeFuncLeaves
import Derived.Shelf.Abstract
import Derived.OwnWalkIn
import Derived.TacticsInMore
import Derived.LoopNIn
import Derived.LoopIn
import Derived.Maps.AppendAt
import Derived.Test.YtkkammbfomiofaaGa
import Derived.Test.YtkkammbfomiofaaEnt
namespace Go.Proofs.Ytkkammbfomiofaa
open Go.RowKit Go.Shelf
set_option linter.unusedSimpArgs false
set_option linter.unusedVariables false

attribute [local go_sem] Oper.semAt_some

/-- The free lids of the first k entries. -/
def freeL (es : List (Int × Bool)) (k : Nat) : List Int := ((List.range k).filter fun i => decide (eA es i = 0)).map fun i : Nat => (i : Int) + 1
theorem freeL_yes {es : List (Int × Bool)} {k : Nat} (h : eA es k = 0) : freeL es (k + 1) = freeL es k ++ [(k : Int) + 1] := by
  simp [freeL, List.range_succ, List.filter_append, h]
theorem freeL_no {es : List (Int × Bool)} {k : Nat} (h : ¬ eA es k = 0) : freeL es (k + 1) = freeL es k := by
  simp [freeL, List.range_succ, List.filter_append, h]
theorem freeL_len (es : List (Int × Bool)) (k : Nat) : (freeL es k).length ≤ k := by
  simp only [freeL, List.length_map]
  exact Nat.le_trans (List.length_filter_le _ _) (by simp)
theorem freeL_prefix (es : List (Int × Bool)) (k m : Nat) (h : k ≤ m) : freeL es k <+: freeL es m := by
  induction m with
  | zero => rw [show k = 0 from by omega]; exact List.prefix_rfl
  | succ m ih =>
    by_cases e : k = m + 1
    · rw [e]; exact List.prefix_rfl
    · have h1 := ih (by omega)
      by_cases hf : eA es m = 0
      · rw [freeL_yes hf]; exact h1.trans (List.prefix_append _ _)
      · rw [freeL_no hf]; exact h1

set_option maxRecDepth 100000 in
set_option maxHeartbeats 2000000 in
theorem lids1_in (F : Fence) (n : Nat) (hfn : F.fn 67) (hro : F.round = none) (hn : 1 ≤ n) (l Bs n₀ b off len cap : Nat) (es : List (Int × Bool)) (hlen : len ≤ 2097152) (hb : b < n₀) (J Jx : List Int → World → Prop) (N0 : Nat) (hAb : AbidesFrom N0 J)
    (hY : ∀ pre x W, J pre W → pre.length < len → YieldAt F (n - 1) Try.prog l #[.int .i64 x] W fun e W' =>
      (e = .returned (.bool true) ∧ J (pre ++ [x]) W' ∧ Below n₀ W W') ∨ (e = .returned (.bool false) ∧ Jx (pre ++ [x]) W'))
    (W : World) (hn0 : n₀ ≤ W.heap.size) (hBs : W.cell? ⟨Bs, 0, none⟩ = some (.slice (some ⟨b, off, none⟩) len cap)) (hc : ∀ j, j < len → W.cell? ⟨b, off + j * 2, none⟩ = some (.int .i64 (eA es j)) ∧ W.cell? ⟨b, off + j * 2 + 1, none⟩ = some (.bool (eI es j))) (h0 : J [] W) :
    CallsIn F n Try.prog 67 #[.func (.yield l) #[] #[], .pointer (some ⟨Bs, 0, none⟩)] W fun e W' => (∃ v, e = .returned v) ∧
      ((∃ ys, ys = freeL es len ∧ J ys W') ∨ (∃ pre, pre <+: freeL es len ∧ Jx pre W')) := by
  refine callsIn_of_wp Try.func67 rfl hfn ?_ hro
  simp only [Try.ntmps67, List.size_toArray, List.length_cons, List.length_nil, Nat.reduceAdd, Nat.reduceSub, Array.replicate_succ, Array.replicate_zero, List.push_toArray, List.append_toArray, List.nil_append, List.cons_append]
  gi_wp2
  gi_loopw [7] (fun i wr => ∃ k : Nat, k ≤ len ∧ i = .int .i64 k ∧ J (freeL es k) wr ∧ Below n₀ W wr)
    (fun i _ => len - (intOf i).toNat)
  case atStart => exact ⟨0, Nat.zero_le _, rfl, h0, Below.refl _ _⟩
  case round =>
    obtain ⟨k, hk, rfl, hJs, hnx⟩ := hrel
    by_cases hlt : k < len
    · have c1 : wr.cell? ⟨b, off + k * 2, none⟩ = some (.int .i64 (eA es k)) := (hnx.cell (p := ⟨b, off + k * 2, none⟩) hb).trans (hc k hlt).1
      have c2 : wr.cell? ⟨b, off + k * 2 + 1, none⟩ = some (.bool (eI es k)) := (hnx.cell (p := ⟨b, off + k * 2 + 1, none⟩) hb).trans (hc k hlt).2
      have hJ2 : J (freeL es k) (wr.alloc (.cells #[.int .i64 (eA es k), .bool (eI es k)] 53)) := hAb _ _ _ none hJs (World.grownBy_alloc wr _ none) (fun r e => by cases e)
      have hB2 : Below n₀ W (wr.alloc (.cells #[.int .i64 (eA es k), .bool (eI es k)] 53)) := hnx.alloc (Nat.le_trans hn0 hnx.size) _
      by_cases hx : eA es k = 0
      · have HF : Hid (freeL es (k + 1) = freeL es k ++ [(k : Int) + 1]) := freeL_yes hx
        have u1 : (eA es k == 0) = true := by simp [hx]
        obtain ⟨fn, tmps, assign, body, hy, hR⟩ := hY _ ((k : Int) + 1) _ hJ2 (by have := freeL_len es k; omega)
        have HX : Hid (eA es k = 0) := hx
        clear hx hc
        gi_wp2
        refine hR.mono ?_
        rintro e W3 (⟨rfl, hJ3, hk3⟩ | ⟨rfl, hJx3⟩)
        · gi_wp2
          go_roundw
          case rel => exact ⟨k + 1, by omega, by simp, by rw [HF.out]; exact hJ3, hB2.trans hk3⟩
          case measure => simp [intOf]; omega
        · gi_wp2
          refine bodyPost_ret (results_none rfl _ _ _) rfl ?_
          exact ⟨⟨_, rfl⟩, .inr ⟨_, by rw [← HF.out]; exact freeL_prefix es (k + 1) len (by omega), hJx3⟩⟩
      · have HF : Hid (freeL es (k + 1) = freeL es k) := freeL_no hx
        have u1 : (eA es k == 0) = false := by simpa using hx
        clear hx hc
        gi_wp2
        refine ⟨fun _ h => (by cases h), ?_⟩
        gi_wp2
        go_roundw
        case rel => exact ⟨k + 1, by omega, by simp, by rw [HF.out]; exact hJ2, hB2⟩
        case measure => simp [intOf]; omega
    · obtain rfl : k = len := by omega
      gi_wp2
      go_end0
      exact ⟨⟨_, rfl⟩, .inl ⟨_, rfl, hJs⟩⟩

set_option maxRecDepth 100000 in
set_option maxHeartbeats 2000000 in
theorem lids1_zero (F : Fence) (n : Nat) (hfn : F.fn 67) (hro : F.round = none) (l Bs : Nat) (a : Option Addr) (cap : Nat) (J : List Int → World → Prop) (W : World) (hBs : W.cell? ⟨Bs, 0, none⟩ = some (.slice a 0 cap)) (h0 : J [] W) :
    CallsIn F n Try.prog 67 #[.func (.yield l) #[] #[], .pointer (some ⟨Bs, 0, none⟩)] W fun e W' => (∃ v, e = .returned v) ∧ J [] W' := by
  refine callsIn_of_wp Try.func67 rfl hfn ?_ hro
  simp only [Try.ntmps67, List.size_toArray, List.length_cons, List.length_nil, Nat.reduceAdd, Nat.reduceSub, Array.replicate_succ, Array.replicate_zero, List.push_toArray, List.append_toArray, List.nil_append, List.cons_append]
  gi_wp2
  gi_loopw [7] (fun i wr => i = .int .i64 0 ∧ wr = W) (fun _ _ => 0)
  case atStart => exact ⟨rfl, rfl⟩
  case round =>
    obtain ⟨rfl, rfl⟩ := hrel
    gi_wp2
    go_end0
    exact ⟨⟨_, rfl⟩, h0⟩

theorem lids_stops (F : Fence) (n : Nat) (hfn : F.fn 67) (hro : F.round = none) (hn : 1 ≤ n) (Bs n₀ : Nat) (a : Option Addr) (len cap : Nat) (es : List (Int × Bool)) (hlen : len ≤ 2097152) (w : World) (hBs : Bs < w.heap.size) (hn₀ : n₀ ≤ w.heap.size)
    (hc : w.cell? ⟨Bs, 0, none⟩ = some (.slice a len cap)) (hE : ERead w a len es) (hlow : ∀ g off, a = some ⟨g, off, none⟩ → 0 < len → g < n₀) :
    SeqStopsK F n Try.prog 67 #[.pointer (some ⟨Bs, 0, none⟩)] (fun x : Int => #[Value.int .i64 x]) (Below n₀) (fun ys => ys = freeL es len) (fun pre => pre <+: freeL es len) len w := fun l J Jx W hW hAb _ hY h0 => by
  have hc' := (hW.cell (p := ⟨Bs, 0, none⟩) hBs).trans hc
  rcases hE.2 with h | ⟨b, off, rfl, hcs⟩
  · subst h
    exact (lids1_zero F n hfn hro l Bs a cap J W hc' h0).mono fun e W' ⟨he, hj⟩ => ⟨he, .inl ⟨_, rfl, hj⟩⟩
  · by_cases h0' : len = 0
    · subst h0'
      exact (lids1_zero F n hfn hro l Bs _ cap J W hc' h0).mono fun e W' ⟨he, hj⟩ => ⟨he, .inl ⟨_, rfl, hj⟩⟩
    · have hb := hlow b off rfl (by omega)
      exact lids1_in F n hfn hro hn l Bs n₀ b off len cap es hlen hb J Jx W.heap.size hAb hY W (Nat.le_trans hn₀ hW.size) hc' (fun j hj => ⟨(hW.cell (p := ⟨b, off + j * 2, none⟩) (Nat.lt_of_lt_of_le hb hn₀)).trans (hcs j hj).1, (hW.cell (p := ⟨b, off + j * 2 + 1, none⟩) (Nat.lt_of_lt_of_le hb hn₀)).trans (hcs j hj).2⟩) h0

theorem freeLids_in (F : Fence) (n : Nat) (hfn : F.fn 57) (hro : F.round = none) (a : Option Addr) (len cap : Nat) (w : World) :
    CallsIn F n Try.prog 57 #[.slice a len cap] w fun e w' => e = .returned (.func (.func 67) #[] #[.pointer (some ⟨w.heap.size, 0, none⟩)]) ∧ w' = w.alloc (.cells #[.slice a len cap] 48) := by
  have hmf : ∀ (fn : Fn) (first cap : Array Value) (w : World), (Instr.makeFunc fn first cap).run Try.prog w = .ok (.func fn first cap) w := fun _ _ _ _ => rfl
  refine callsIn_of_wp Try.func57 rfl hfn ?_ hro
  simp only [Try.ntmps57, List.size_toArray, List.length_cons, List.length_nil, Nat.reduceAdd, Nat.reduceSub, Array.replicate_succ, Array.replicate_zero, List.push_toArray, List.append_toArray, List.nil_append, List.cons_append]
  gi_wp2
  go_ret
  exact ⟨rfl, rfl⟩
end Go.Proofs.Ytkkammbfomiofaa
