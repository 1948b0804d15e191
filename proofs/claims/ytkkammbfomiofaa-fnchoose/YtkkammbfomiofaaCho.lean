/-
  slices.Chunk over bytes: pieces of 64.
-/
import Derived.RangeFuncNested
import Derived.RangeFuncBox
import Derived.RangeFuncLeaves
import Derived.Shelf.Abstract
import Derived.OwnWalkIn
import Derived.TacticsInMore
import Derived.LoopNIn
import Derived.LoopIn
import Derived.Maps.AppendAt
import Derived.Test.YtkkammbfomiofaaGa
namespace Go.Proofs.Ytkkammbfomiofaa
open Go.RowKit Go.Shelf
set_option linter.unusedSimpArgs false
set_option linter.unusedVariables false

attribute [local go_sem] Oper.semAt_some

set_option maxRecDepth 100000 in
set_option maxHeartbeats 2000000 in
theorem chunk_in (F : Fence) (n : Nat) (hfn : F.fn 62) (hro : F.round = none) (a : Option Addr) (len cap : Nat) (w : World) :
    CallsIn F n Try.prog 62 #[.slice a len cap, .int .i64 64] w fun e w' => e = .returned (.func (.func 72) #[] #[.pointer (some ⟨w.heap.size, 0, none⟩), .pointer (some ⟨w.heap.size + 1, 0, none⟩)]) ∧ w' = (w.alloc (.cells #[.slice a len cap] 22)).alloc (.cells #[.int .i64 64] 3) := by
  have hmf : ∀ (fn : Fn) (first cap : Array Value) (w : World), (Instr.makeFunc fn first cap).run Try.prog w = .ok (.func fn first cap) w := fun _ _ _ _ => rfl
  refine callsIn_of_wp Try.func62 rfl hfn ?_ hro
  simp only [Try.ntmps62, List.size_toArray, List.length_cons, List.length_nil, Nat.reduceAdd, Nat.reduceSub, Array.replicate_succ, Array.replicate_zero, List.push_toArray, List.append_toArray, List.nil_append, List.cons_append]
  gi_wp2
  go_ret
  exact ⟨rfl, rfl⟩

theorem grown_none_drew (w : World) : w.grownBy w.drew none := ⟨rfl, rfl, rfl, Nat.le_refl _, fun _ _ _ => rfl⟩
theorem grown_none_drewN (w : World) (d : Nat) : w.grownBy (w.drewN d) none := ⟨rfl, rfl, rfl, Nat.le_refl _, fun _ _ _ => rfl⟩
theorem meas_lt {m : Nat} {x e : Int} (h : x = e + 64) (hM : m - (e + 64).toNat < m - e.toNat) : m - (intOf (.int .i64 x)).toNat < m - (intOf (.int .i64 e)).toNat := by
  subst h
  exact hM
theorem range_prefix {a b : Nat} (h : a ≤ b) : List.range a <+: List.range b := by
  obtain ⟨c, rfl⟩ := Nat.exists_eq_add_of_le h
  rw [List.range_add]
  exact List.prefix_append _ _

/-- The first k blocks of nb. -/
def fL (nb k : Nat) : List (Fin nb) := (List.finRange nb).take k
theorem fL_succ {nb k : Nat} (h : k < nb) : fL nb (k + 1) = fL nb k ++ [⟨k, h⟩] := by
  unfold fL
  rw [List.take_succ_eq_append_getElem (by simpa using h)]
  simp
theorem fL_len {nb k : Nat} (h : k ≤ nb) : (fL nb k).length = k := by simp [fL]; omega
theorem fL_all (nb : Nat) : fL nb nb = List.finRange nb := by unfold fL; rw [List.take_of_length_le (by simp)]
theorem fL_prefix (nb k : Nat) : fL nb k <+: List.finRange nb := List.take_prefix _ _

set_option maxRecDepth 100000 in
set_option maxHeartbeats 600000 in
theorem chunk1_in (n : Nat) (hn : 1 ≤ n) (l Bs Bn : Nat) (G : Nat → Prop) (b off nb cap : Nat) (hlen : nb ≤ 4096) (J Jx : List (Fin nb) → World → Prop) (N0 : Nat) (hAb : AbidesFrom N0 J)
    (hBs0 : ¬ G Bs) (hBn0 : ¬ G Bn)
    (hY : ∀ (pre : List (Fin nb)) (x : Fin nb) (W : World), J pre W → pre.length < nb → YieldAt Fence.wide (n - 1) Try.prog l #[.slice (some ⟨b, off + 64 * x.1, none⟩) 64 64] W fun e W' =>
      (e = .returned (.bool true) ∧ J (pre ++ [x]) W' ∧ Kept G W W') ∨ (e = .returned (.bool false) ∧ Jx (pre ++ [x]) W'))
    (W : World) (hBs : W.cell? ⟨Bs, 0, none⟩ = some (.slice (some ⟨b, off, none⟩) (nb * 64) cap)) (hBn : W.cell? ⟨Bn, 0, none⟩ = some (.int .i64 64)) (hcap : nb * 64 ≤ cap) (h0 : J [] W) :
    CallsIn Fence.wide n Try.prog 72 #[.func (.yield l) #[] #[], .pointer (some ⟨Bs, 0, none⟩), .pointer (some ⟨Bn, 0, none⟩)] W fun e W' => (∃ v, e = .returned v) ∧
      ((∃ ys, ys = List.finRange nb ∧ J ys W') ∨ (∃ pre, pre <+: List.finRange nb ∧ Jx pre W')) := by
  refine callsIn_of_wp Try.func72 rfl trivial ?_ rfl
  simp only [Try.ntmps72, List.size_toArray, List.length_cons, List.length_nil, Nat.reduceAdd, Nat.reduceSub, Array.replicate_succ, Array.replicate_zero, List.push_toArray, List.append_toArray, List.nil_append, List.cons_append]
  gi_wp2
  gi_loopw [4] (fun i wr => ∃ k : Nat, k ≤ nb ∧ i = .int .i64 ((k * 64 : Nat) : Int) ∧ J (fL nb k) wr ∧ Kept G W wr)
    (fun i _ => nb * 64 - (intOf i).toNat)
  case atStart => exact ⟨0, Nat.zero_le _, rfl, by simpa [fL] using h0, Kept.refl _ _⟩
  case round =>
    obtain ⟨k, hk, rfl, hJs, hnx⟩ := hrel
    have c1 : wr.cell? ⟨Bs, 0, none⟩ = some (.slice (some ⟨b, off, none⟩) (nb * 64) cap) := (World.cell?_of_block (a := ⟨Bs, 0, none⟩) (hnx.block Bs (World.block_lt_of_cell? W _ hBs) hBs0)).trans hBs
    have c2 : wr.cell? ⟨Bn, 0, none⟩ = some (.int .i64 64) := (World.cell?_of_block (a := ⟨Bn, 0, none⟩) (hnx.block Bn (World.block_lt_of_cell? W _ hBn) hBn0)).trans hBn
    by_cases hlt : k < nb
    · obtain ⟨e, he⟩ : ∃ e, e = k * 64 := ⟨_, rfl⟩
      obtain ⟨L, hL⟩ : ∃ L, L = nb * 64 := ⟨_, rfl⟩
      have hJ2 : J (fL nb k) wr.drew := hAb _ _ _ none hJs (grown_none_drew wr) (fun r e => by cases e)
      have hB2 : Kept G W wr.drew := hnx.trans (Kept.drew wr G)
      obtain ⟨fn, tmps, assign, body, hy, hR⟩ := hY _ ⟨k, hlt⟩ _ hJ2 (by rw [fL_len hk]; exact hlt)
      rw [show off + 64 * (⟨k, hlt⟩ : Fin nb).1 = off + e by show off + 64 * k = off + e; omega] at hy
      have HS : Hid (J (fL nb k ++ [⟨k, hlt⟩]) = J (fL nb (k + 1))) := by show _ = _; rw [fL_succ hlt]
      have HE : Hid (e = k * 64 ∧ L = nb * 64) := ⟨he, hL⟩
      have HR : Hid (RoundIn Fence.wide (n - 1) Try.prog l fn tmps assign body wr.drew fun e W' => (e = .returned (.bool true) ∧ J (fL nb k ++ [⟨k, hlt⟩]) W' ∧ Kept G wr.drew W') ∨ (e = .returned (.bool false) ∧ Jx (fL nb k ++ [⟨k, hlt⟩]) W')) := hR
      have HY : Hid ((Instr.yield l #[.slice (some ⟨b, off + e, none⟩) 64 64]).run Try.prog wr.drew = .ok (.round l fn tmps assign body) wr.drew) := hy
      rw [← he]
      rw [← hL] at c1 hcap
      have e4 : (e : Int) < (L : Int) := by omega
      have e1 : Hid (e + 64 ≤ L ∧ L ≤ cap ∧ L ≤ 262144) := by show _ ∧ _; omega
      have HM : Hid (nb * 64 - ((e : Int) + 64).toNat < nb * 64 - ((e : Nat) : Int).toNat) := by
        show _ < _
        clear hcap c1 c2 hBs hBn e1 HE
        rw [Int.toNat_natCast, show ((e : Int) + 64).toNat = e + 64 by omega]
        omega
      clear he hL hR hy hY hJs hJ2 hlen hcap
      gi_wp2
      refine wpIn_region_calm (fun W => W.cell? ⟨Bs, 0, none⟩ = some (.slice (some ⟨b, off, none⟩) L cap) ∧ W.cell? ⟨Bn, 0, none⟩ = some (.int .i64 64)) (by kernel_rfl) (by kernel_rfl) (fun a w h => by obtain ⟨⟨v, e⟩, _⟩ := h; cases e) ?_
      change wpAnyH _ _ _ _ _ _ _ _ wr.drew
      have e2 : (e : Int) ≤ (L : Int) := by omega
      have e3 : (0 : Int) ≤ (e : Int) := by omega
      have e5 : ¬ cap = e := by have := e1.out; omega
      have e6 : ¬ ((L - e : Nat) : Int) < 64 := by have := e1.out; omega
      refine wpAnyH_take (i := 0) (v := .int .i64 64) rfl (by kernel_rfl) (by kernel_rfl) (by kernel_rfl) (fun _ _ _ h => h) (Or.inl ⟨rfl, fun W hW => by obtain ⟨h1, h2⟩ := hW; go_simp⟩) ⟨c1, c2⟩ ?_
      refine wpAnyH_take (i := 1) (v := .slice (some ⟨b, off, none⟩) L cap) rfl (by kernel_rfl) (by kernel_rfl) (by kernel_rfl) (fun _ _ _ h => h) (Or.inl ⟨rfl, fun W hW => by obtain ⟨h1, h2⟩ := hW; go_simp⟩) ⟨c1, c2⟩ ?_
      refine wpAnyH_take (i := 2) (v := .int .i64 (e : Int)) rfl (by kernel_rfl) (by kernel_rfl) (by kernel_rfl) (fun _ _ _ h => h) (Or.inl ⟨rfl, fun W hW => by go_simp⟩) ⟨c1, c2⟩ ?_
      refine wpAnyH_take (i := 3) (v := .slice (some ⟨b, off + e, none⟩) (L - e) (cap - e)) rfl (by kernel_rfl) (by kernel_rfl) (by kernel_rfl) (fun _ _ _ h => h) (Or.inl ⟨rfl, fun W hW => by go_simp⟩) ⟨c1, c2⟩ ?_
      refine wpAnyH_take (i := 4) (v := .int .i64 ((L - e : Nat) : Int)) rfl (by kernel_rfl) (by kernel_rfl) (by kernel_rfl) (fun _ _ _ h => h) (Or.inl ⟨rfl, fun W hW => by go_simp⟩) ⟨c1, c2⟩ ?_
      refine wpAnyH_take (i := 5) (v := .int .i64 64) rfl (by kernel_rfl) (by kernel_rfl) (by kernel_rfl) (fun _ _ _ h => h) (Or.inl ⟨rfl, fun W hW => by go_simp⟩) ⟨c1, c2⟩ ?_
      refine wpAnyH_take (i := 6) (v := .int .i64 64) rfl (by kernel_rfl) (by kernel_rfl) (by kernel_rfl) (fun _ _ _ h => h) (Or.inl ⟨rfl, fun W hW => by go_simp⟩) ⟨c1, c2⟩ ?_
      refine wpAnyH_done (by kernel_rfl) ?_ _
      clear e6 e2 e4
      have e10 : wrap64 ((e : Int) + 64) = (e : Int) + 64 := by have := e1.out; unfold wrap64; omega
      have e11 : ((e : Int) + 64).toNat - e = 64 := by omega
      have e9 : (e : Int) + 64 ≤ (cap : Int) := by have := e1.out; omega
      have e12 : (0 : Int) ≤ (e : Int) + 64 := by omega
      have hy := HY.out
      gi_wp2
      refine HR.out.mono ?_
      rintro e' W3 (⟨rfl, hJ3, hk3⟩ | ⟨rfl, hJx3⟩)
      · have c3 : W3.cell? ⟨Bn, 0, none⟩ = some (.int .i64 64) := (World.cell?_of_block (a := ⟨Bn, 0, none⟩) (hk3.block Bn (World.block_lt_of_cell? wr _ c2) hBn0)).trans c2
        rw [HS.out] at hJ3
        have HJ3 := hJ3
        have hB3 := hB2.trans hk3
        have HE10 : Hid (wrap64 ((e : Int) + 64) = (e : Int) + 64) := e10
        clear hJ3 hk3 hB2 hy e3 e5 e9 e10 e11 e12 c1 c2
        gi_wp2
        go_roundw
        case rel => exact ⟨k + 1, by omega, by have h1 := HE.out; have h2 := HE10.out; first | (rw [h2]; congr 1; omega) | (congr 1; omega), HJ3, hB3⟩
        case measure => exact meas_lt HE10.out HM.out
      · clear e3 e5 e9 e10 e11 e12 c1 c2 hy hB2
        gi_wp2
        refine bodyPost_ret (results_none rfl _ _ _) rfl ?_
        exact ⟨⟨_, rfl⟩, .inr ⟨_, by rw [← fL_succ hlt]; exact fL_prefix nb (k + 1), hJx3⟩⟩
    · obtain rfl : k = nb := by omega
      gi_wp2
      go_end0
      exact ⟨⟨_, rfl⟩, .inl ⟨_, fL_all k, hJs⟩⟩

/-- What chunk hands over, as a sequence of numbers of blocks. -/
theorem chunk_stops (n : Nat) (hn : 1 ≤ n) (Bs Bn : Nat) (G : Nat → Prop) (b off nb cap : Nat) (hlen : nb ≤ 4096) (w : World) (hBs0 : ¬ G Bs) (hBn0 : ¬ G Bn)
    (hc : w.cell? ⟨Bs, 0, none⟩ = some (.slice (some ⟨b, off, none⟩) (nb * 64) cap)) (hc2 : w.cell? ⟨Bn, 0, none⟩ = some (.int .i64 64)) (hcap : nb * 64 ≤ cap) :
    SeqStopsK Fence.wide n Try.prog 72 #[.pointer (some ⟨Bs, 0, none⟩), .pointer (some ⟨Bn, 0, none⟩)] (fun x : Fin nb => #[Value.slice (some ⟨b, off + 64 * x.1, none⟩) 64 64]) (Kept G) (fun ys => ys = List.finRange nb) (fun pre => pre <+: List.finRange nb) nb w := fun l J Jx W hW hAb _ hY h0 =>
  chunk1_in n hn l Bs Bn G b off nb cap hlen J Jx W.heap.size hAb hBs0 hBn0 (fun pre x W' hJ hl => hY pre x W' hJ hl) W ((hW.cell (p := ⟨Bs, 0, none⟩) (World.block_lt_of_cell? w _ hc)).trans hc) ((hW.cell (p := ⟨Bn, 0, none⟩) (World.block_lt_of_cell? w _ hc2)).trans hc2) hcap h0
end Go.Proofs.Ytkkammbfomiofaa
