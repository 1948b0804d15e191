/-
  The program's DecodeInode, at whatever bytes.
-/
import Derived.Test.YtkkammbfomiofaaDoorDcn
import Derived.Test.YtkkammbfomiofaaDoorRsh
namespace Go.Proofs.YtkkammbfomiofaaDoor
open Go.RowKit
set_option linter.unusedSimpArgs false
set_option linter.unusedVariables false

set_option maxHeartbeats 400000 in
theorem catchI_out (g : Nat) (x0 x1 x2 x3 : Value) (w : World) (hg : w.heap[g]? = some (.cells #[x0, x1, x2, x3] 29 (0, 0))) :
    CallsD Tryd.prog 23 #[.pointer (some ⟨g, 0, none⟩)] (.panicking outV) w fun e u' w' =>
      e = .returned (.tuple #[]) ∧ u' = .panicking [{ v := .iface 58 (.agg #[]), recovered := true }] ∧ Kept (fun x => x = g) w w' ∧ w'.cell? ⟨g, 0, none⟩ = some (.bool false) ∧ w'.cell? ⟨g, 1, none⟩ = some (.string ⟨#[]⟩) ∧ w'.cell? ⟨g, 2, none⟩ = some (.int .i64 0) ∧ w'.cell? ⟨g, 3, none⟩ = some (.slice none 0 0) := by
  refine callsD_of_wpS Tryd.func23 rfl fun c₀ cs hu => ?_
  apply wpS_seq
  apply wpS_region
  simp [wpOpsS, go_sem, recoverD, hu, outV, Tryd.ntmps23, Exit.thenS]
  refine (ranOut_out w).mono ?_
  rintro e w1 ⟨rfl, hb⟩
  have lg : g < w.heap.size := (Array.getElem?_eq_some_iff.1 hg).1
  have k1 := (hb.block g lg).trans hg
  obtain ⟨⟨t0, t1, t2, t3⟩, z0, z1, z2, z3⟩ := four_of k1
  refine wpS_cond (t := true) (by simp [Act.eval, Array.replicate]) ?_
  simp only [if_true]
  apply wpS_region
  simp [wpOpsS, go_sem, t0, t1, t2, t3, z0, z1, z2, z3, bodyPostS, results, Tryd.results23]
  have hG : (fun x => x = g) g := rfl
  exact ((((Kept.of_below hb (fun x => x = g)).trans (Kept.setCell w1 ⟨g, 0, none⟩ _ (fun x => x = g) hG)).trans (Kept.setCell _ ⟨g, 1, none⟩ _ (fun x => x = g) hG)).trans (Kept.setCell _ ⟨g, 2, none⟩ _ (fun x => x = g) hG)).trans (Kept.setCell _ ⟨g, 3, none⟩ _ (fun x => x = g) hG)
theorem decI_short {xs : List Int} {n : Nat} (hn : xs.length = n) (h : n < 18 ∨ n < 18 + 2 * inK xs) : decI xs = false := by
  cases hd : decI xs
  · rfl
  · simp only [decI, Bool.and_eq_true, decide_eq_true_eq, inoB] at hd
    obtain ⟨h1, ⟨_, ⟨h2, h3⟩, _⟩, _⟩ := hd
    have : inK xs ≤ 22 := by unfold inK; omega
    omega
set_option maxHeartbeats 1000000 in
theorem decodeInode_short (a : Option Addr) (n c : Nat) (xs : List Int) (w : World) (ha : IRow .u8 w a n xs) (hx : Byt xs) (hn : n < 18 ∨ n < 18 + 2 * inK xs) (hc : n ≤ c) (hm : c ≤ 9223372036854775807) :
    Calls Tryd.prog 7 #[.slice a n c] w fun e w' => IAns w w' e xs := by
  have hmf : ∀ (fn : Fn) (first cap : Array Value) (w : World), (Instr.makeFunc fn first cap).run Tryd.prog w = .ok (.func fn first cap) w := fun _ _ _ _ => rfl
  obtain ⟨k1, k2, hb0, s0⟩ := @two_blocks w (.cells #[.bool false, .string ⟨#[]⟩, .int .i64 0, .slice none 0 0] 29) (.cells #[.slice a n c] 62)
  have HD : Hid (decI xs = false) := decI_short ha.1 hn
  have HRUN : Calls Tryd.prog 25 #[.pointer (some ⟨w.heap.size + 1, 0, none⟩)] ((w.alloc (.cells #[.bool false, .string ⟨#[]⟩, .int .i64 0, .slice none 0 0] 29)).alloc (.cells #[.slice a n c] 62)) fun e w' => e = .panicked outV ∧ Kept (fun g => g = w.heap.size + 1) ((w.alloc (.cells #[.bool false, .string ⟨#[]⟩, .int .i64 0, .slice none 0 0] 29)).alloc (.cells #[.slice a n c] 62)) w' := by
    by_cases h18 : n < 18
    · exact readInode_few (w.heap.size + 1) a n c xs w _ ha hb0 (by omega) k2 h18 hc hm hx
    · exact readInode_mid (w.heap.size + 1) a n c xs w _ ha hb0 (by omega) k2 (by omega) (by omega) hc hm hx
  go_enter_defers Tryd.func7, Tryd.ntmps7
  go_wp2_with fail
  refine HRUN.mono ?_
  rintro e w1 ⟨rfl, hk1⟩
  have kN := (hk1.block w.heap.size (by rw [s0]; omega) (by omega)).trans k1
  have hB1 : Below w.heap.size w w1 := hb0.trans (hk1.below (by rw [s0]; omega) (fun g hg => by omega))
  refine leaves_cons (f := 23) (args := #[.pointer (some ⟨w.heap.size, 0, none⟩)]) (by simp) (by simp [go_sem]) ?_
  refine (catchI_out w.heap.size _ _ _ _ w1 kN).mono ?_
  rintro e u' w2 ⟨rfl, rfl, hk2, c0, c1, c2, c3⟩
  simp [Leaves, settle, results, Tryd.results7, go_sem, c0, c1, c2, c3]
  exact ⟨hB1.trans (hk2.below hB1.size (fun g hg => by omega)), .inl ⟨HD.out, rfl⟩⟩
theorem decodeInode_any (a : Option Addr) (n c : Nat) (xs : List Int) (w : World) (ha : IRow .u8 w a n xs) (hx : Byt xs) (hc : n ≤ c) (hm : c ≤ 9223372036854775807) :
    Calls Tryd.prog 7 #[.slice a n c] w fun e w' => IAns w w' e xs := by
  by_cases h : n < 18 + 2 * inK xs
  · exact decodeInode_short a n c xs w ha hx (.inr h) hc hm
  · exact decodeInode_long a n c xs w ha hx (by omega) hc hm
end Go.Proofs.YtkkammbfomiofaaDoor
