/-
  The program's DecodeHeader.
-/
import Derived.Test.YtkkammbfomiofaaDoorRd
import Derived.Deep.MidRow
import Derived.Stop.BytesEq
namespace Go.Proofs.YtkkammbfomiofaaDoor
open Go.RowKit
set_option linter.unusedSimpArgs false
set_option linter.unusedVariables false

theorem assert_out (w : World) : (Instr.typeAssert (.iface 58 (.agg #[])) 20 58 true).run Tryd.prog w = .ok (.tuple #[.agg #[], .bool true]) w := by
  unfold Instr.typeAssert
  simp [run_underlying Tryd.underlying58]

set_option maxHeartbeats 400000 in
theorem ranOut_out (w : World) : Calls Tryd.prog 24 #[.iface 58 (.agg #[])] w fun e w' => e = .returned (.bool true) ∧ Below w.heap.size w w' := by
  have hta := assert_out
  go_enter Tryd.func24, Tryd.ntmps24
  go_wp2
  go_ret
  exact ⟨rfl, (Below.refl _ _).alloc (Nat.le_refl _) _⟩
set_option maxHeartbeats 400000 in
theorem ranOut_nil (w : World) : Calls Tryd.prog 24 #[.nilIface] w fun e w' => e = .returned (.bool false) ∧ w' = w := by
  go_enter Tryd.func24, Tryd.ntmps24
  go_wp2
  go_ret
  exact ⟨rfl, rfl⟩

set_option maxHeartbeats 400000 in
theorem catch_out (g : Nat) (x0 x1 x2 x3 : Value) (w : World) (hg : w.heap[g]? = some (.cells #[x0, x1, x2, x3] 44 (0, 0))) :
    CallsD Tryd.prog 37 #[.pointer (some ⟨g, 0, none⟩)] (.panicking outV) w fun e u' w' =>
      e = .returned (.tuple #[]) ∧ u' = .panicking [{ v := .iface 58 (.agg #[]), recovered := true }] ∧ Kept (fun x => x = g) w w' ∧ w'.cell? ⟨g, 0, none⟩ = some (.bool false) ∧ w'.cell? ⟨g, 1, none⟩ = some (.int .i64 0) ∧ w'.cell? ⟨g, 2, none⟩ = some (.int .i64 0) ∧ w'.cell? ⟨g, 3, none⟩ = some (.int .i64 0) := by
  refine callsD_of_wpS Tryd.func37 rfl fun c₀ cs hu => ?_
  apply wpS_seq
  apply wpS_region
  simp [wpOpsS, go_sem, recoverD, hu, outV, Tryd.ntmps37, Exit.thenS]
  refine (ranOut_out w).mono ?_
  rintro e w1 ⟨rfl, hb⟩
  have lg : g < w.heap.size := (Array.getElem?_eq_some_iff.1 hg).1
  have k1 := (hb.block g lg).trans hg
  have t0 : w1.cell? ⟨g, 0, none⟩ = some x0 := by rw [cell_of_row w1 g 0 _ _ _ k1]; rfl
  have t1 : w1.cell? ⟨g, 1, none⟩ = some x1 := by rw [cell_of_row w1 g 1 _ _ _ k1]; rfl
  have t2 : w1.cell? ⟨g, 2, none⟩ = some x2 := by rw [cell_of_row w1 g 2 _ _ _ k1]; rfl
  have t3 : w1.cell? ⟨g, 3, none⟩ = some x3 := by rw [cell_of_row w1 g 3 _ _ _ k1]; rfl
  have z0 : w1.frozen? ⟨g, 0, none⟩ = false := by simp [World.frozen?, k1]
  have z1 : w1.frozen? ⟨g, 1, none⟩ = false := by simp [World.frozen?, k1]
  have z2 : w1.frozen? ⟨g, 2, none⟩ = false := by simp [World.frozen?, k1]
  have z3 : w1.frozen? ⟨g, 3, none⟩ = false := by simp [World.frozen?, k1]
  refine wpS_cond (t := true) (by simp [Act.eval, Array.replicate]) ?_
  simp only [if_true]
  apply wpS_region
  simp [wpOpsS, go_sem, t0, t1, t2, t3, z0, z1, z2, z3, bodyPostS, results, Tryd.results37]
  have hG : (fun x => x = g) g := rfl
  exact ((((Kept.of_below hb (fun x => x = g)).trans (Kept.setCell w1 ⟨g, 0, none⟩ (.bool false) (fun x => x = g) hG)).trans (Kept.setCell _ ⟨g, 1, none⟩ (.int .i64 0) (fun x => x = g) hG)).trans (Kept.setCell _ ⟨g, 2, none⟩ (.int .i64 0) (fun x => x = g) hG)).trans (Kept.setCell _ ⟨g, 3, none⟩ (.int .i64 0) (fun x => x = g) hG)

set_option maxHeartbeats 400000 in
theorem catch_idle (g : Nat) (w : World) :
    CallsD Tryd.prog 37 #[.pointer (some ⟨g, 0, none⟩)] .returning w fun e u' w' => e = .returned (.tuple #[]) ∧ u' = .returning ∧ w' = w := by
  refine callsD_of_wpS Tryd.func37 rfl fun c₀ cs hu => ?_
  apply wpS_seq
  apply wpS_region
  simp [wpOpsS, go_sem, recoverD, hu, Tryd.ntmps37, Exit.thenS]
  refine (ranOut_nil w).mono ?_
  rintro e w1 ⟨rfl, rfl⟩
  refine wpS_cond (t := false) (by simp [Act.eval, Array.replicate]) ?_
  simp only [Bool.false_eq_true, if_false]
  refine wpS_of_wp (wp_skip ?_)
  cases c₀
  simp_all [bodyPostS, results, Tryd.results37]

def toU (x : Int) : UInt8 := UInt8.ofNat x.toNat
theorem toU_nat {x : Int} (h : 0 ≤ x ∧ x ≤ 255) : ((toU x).toNat : Int) = x := by
  simp only [toU, UInt8.toNat_ofNat']
  omega
theorem u8s_cell {xs : List Int} (h : ∀ x ∈ xs, 0 ≤ x ∧ x ≤ 255) : u8s xs = (xs.map toU).map Extern.Stop.cell := by
  simp only [u8s, List.map_map]
  refine List.map_congr_left fun x hx => ?_
  show Value.int .u8 x = Value.int .u8 (Int.ofNat (toU x).toNat)
  rw [show Int.ofNat (toU x).toNat = x from toU_nat (h x hx)]
theorem toU_inj {xs ys : List Int} (hx : ∀ x ∈ xs, 0 ≤ x ∧ x ≤ 255) (hy : ∀ x ∈ ys, 0 ≤ x ∧ x ≤ 255) : (xs.map toU == ys.map toU) = decide (xs = ys) := by
  rw [Bool.eq_iff_iff, beq_iff_eq, decide_eq_true_eq]
  constructor
  · intro e
    have e2 : (xs.map toU).map (fun u => (u.toNat : Int)) = (ys.map toU).map (fun u => (u.toNat : Int)) := by rw [e]
    rw [List.map_map, List.map_map] at e2
    have f : ∀ zs : List Int, (∀ x ∈ zs, 0 ≤ x ∧ x ≤ 255) → zs.map ((fun u : UInt8 => (u.toNat : Int)) ∘ toU) = zs := by
      intro zs hz
      conv => rhs; rw [← List.map_id zs]
      exact List.map_congr_left fun x hx => toU_nat (hz x hx)
    rw [f xs hx, f ys hy] at e2
    exact e2
  · rintro rfl; rfl
theorem size5 (w : World) : (sizeOf 5).run Tryd.prog w = .ok 1 w := by
  obtain ⟨i0, hi, hz0, hz1, hz2⟩ := info_parts info5
  simp [sizeOf, typeInfo, hi, hz1]
theorem eql_blocks (xs ys : List Int) (w : World) (hx : ∀ x ∈ xs, 0 ≤ x ∧ x ≤ 255) (hy : ∀ x ∈ ys, 0 ≤ x ∧ x ≤ 255) (lx : xs.length = 64) (ly : ys.length = 64) :
    (binOp .eql 52 (.agg (u8s xs).toArray) (.agg (u8s ys).toArray)).run Tryd.prog w = .ok (.bool (decide (xs = ys))) w := by
  rw [u8s_cell hx, u8s_cell hy, run_eql_bytes w 52 5 64 Tryd.underlying52 Tryd.underlying5 size5 _ _ (by simp [lx]) (by simp [ly]), toU_inj hx hy]

set_option maxHeartbeats 400000 in
theorem isBlock_no (a : Option Addr) (n c : Nat) (X : Array Value) (w : World) (hn : n ≠ 64) :
    Calls Tryd.prog 26 #[.slice a n c, .agg X] w fun e w' => e = .returned (.bool false) ∧ Below w.heap.size w w' := by
  have hn' : ((n : Int) == 64) = false := by simp; omega
  go_enter Tryd.func26, Tryd.ntmps26
  go_wp2
  go_region
  go_wp2
  go_ret
  exact ⟨rfl, ((Below.refl _ _).alloc (Nat.le_refl _) _).drew⟩
theorem wp_eql {op : Oper} {a : Act} {w : World} {K : Act → World → Prop} {Q : Exit → Act → World → Prop} (t t' : TypeId) (x y : Operand) (ho : op.op = .binOp .eql t x y t') (u v r : Value) (hx : a.eval x = u) (hy : a.eval y = v)
    (hG : (eqGuard .eql t x y u v).run Tryd.prog w = .ok () w) (h : (binOp .eql t u v).run Tryd.prog w = .ok r w) (hK : K (a.put op.dst r) w) : op.wp Tryd.prog a w K Q := by
  unfold Oper.wp execOp
  simp only [ho, hx, hy, Sem.run_bind, hG, h, Result.andThen_ok, Sem.run_pure]
  exact hK
theorem if_yes {c : Bool} {A B : Prop} (h : c = true) (hA : A) : if c = true then A else B := by rw [if_pos h]; exact hA
theorem guard52 (x y : Operand) (X Y : Array Value) (w : World) : (eqGuard .eql 52 x y (.agg X) (.agg Y)).run Tryd.prog w = .ok () w := by
  have hgt : Tryd.prog.eqGuardType Tryd.prog.depth 52 = false := by kernel_rfl
  simp [eqGuard, hgt]
set_option maxHeartbeats 1000000 in
set_option maxRecDepth 100000 in
theorem isBlock_any (g off : Nat) (c : Nat) (xs ys : List Int) (w : World) (ha : IRow .u8 w (some ⟨g, off, none⟩) 64 xs) (hx : ∀ x ∈ xs, 0 ≤ x ∧ x ≤ 255) (hy : ∀ x ∈ ys, 0 ≤ x ∧ x ≤ 255) (ly : ys.length = 64) :
    Calls Tryd.prog 26 #[.slice (some ⟨g, off, none⟩) 64 c, .agg (u8s ys).toArray] w fun e w' => e = .returned (.bool (decide (xs = ys))) ∧ Below w.heap.size w w' := by
  have heq := fun W => eql_blocks xs ys W hx hy ha.1 ly
  have hl2 : ((w.alloc (.cells (u8s ys).toArray 52)).drew).rangeAt w.heap.size 0 (u8s ys) := fun j v hv => by
    show (w.alloc (.cells (u8s ys).toArray 52)).cell? _ = _
    rw [cell_of_row _ w.heap.size _ _ _ _ (heap_alloc_new w _)]; simpa using hv
  have hl1 : ((w.alloc (.cells (u8s ys).toArray 52)).drew).rangeAt g off (u8s xs) := fun j v hv => by
    show (w.alloc (.cells (u8s ys).toArray 52)).cell? _ = _
    rcases ha.2 with h0 | ⟨g', off', e, hc⟩
    · omega
    · injection e with e
      injection e with e1 e2 e3
      subst e1; subst e2
      have hj : j < xs.length := by
        have := (List.getElem?_eq_some_iff.1 hv).1
        rwa [u8s_len] at this
      have c1 := hc j (by rw [← ha.1]; exact hj)
      rw [((Below.refl _ _).alloc (Nat.le_refl _) _).cell (World.block_lt_of_cell? w _ c1), c1]
      rw [← hv]; simp [u8s, hj]
  have i1 : (Tryd.prog.info? 52).map (·.size) = some (u8s xs).length := by rw [u8s_len, ha.1]; exact info52s
  have i2 : (Tryd.prog.info? 52).map (·.size) = some (u8s ys).length := by rw [u8s_len, ly]; exact info52s
  have hB : Below w.heap.size w (w.alloc (.cells (u8s ys).toArray 52)).drew := ((Below.refl _ _).alloc (Nat.le_refl _) _).drew
  have HE : Hid (∀ W, (binOp .eql 52 (.agg (u8s xs).toArray) (.agg (u8s ys).toArray)).run Tryd.prog W = .ok (.bool (decide (xs = ys))) W) := heq
  have HL : Hid (((w.alloc (.cells (u8s ys).toArray 52)).drew).rangeAt w.heap.size 0 (u8s ys) ∧ ((w.alloc (.cells (u8s ys).toArray 52)).drew).rangeAt g off (u8s xs)) := ⟨hl2, hl1⟩
  have HI : Hid ((Tryd.prog.info? 52).map (·.size) = some (u8s xs).length ∧ (Tryd.prog.info? 52).map (·.size) = some (u8s ys).length) := ⟨i1, i2⟩
  clear hl1 hl2 ha hx hy ly heq i1 i2
  generalize u8s ys = Y at *
  generalize u8s xs = X at *
  generalize decide (xs = ys) = b at *
  have harr : ∀ W, (Instr.arrayAt 52 (.slice (some ⟨g, off, none⟩) 64 c)).run Tryd.prog W = .ok (.pointer (some ⟨g, off, none⟩)) W := fun W => by simp [Instr.arrayAt, run_underlying Tryd.underlying52]
  go_enter Tryd.func26, Tryd.ntmps26
  go_wp2
  generalize w.alloc (.cells Y.toArray 52) = W at *
  refine wp_region_any (by kernel_rfl) ?_
  change wpAny _ _ _ _ _ _ _ (World.drew _)
  refine wpAny_ready (rs := [0]) (by kernel_rfl) (by simp) ?_
  refine AllReady.cons rfl (fun K hK => ?_) AllReady.nil
  go_simp
  refine hK _ _ ?_
  clear hK K
  refine wpAny_ready (rs := [1]) (by kernel_rfl) (by simp) ?_
  refine AllReady.cons rfl (fun K hK => ?_) AllReady.nil
  go_simp
  refine hK _ _ ?_
  clear hK K
  refine wpAny_ready (rs := [2]) (by kernel_rfl) (by simp) ?_
  refine AllReady.cons rfl (fun K hK => ?_) AllReady.nil
  go_simp
  refine hK _ _ ?_
  clear hK K
  refine wpAny_ready (rs := [3]) (by kernel_rfl) (by simp) ?_
  refine AllReady.cons rfl (fun K hK => ?_) AllReady.nil
  go_simp
  refine hK _ _ ?_
  clear hK K
  refine wpAny_ready (rs := [4, 7]) (by kernel_rfl) (by simp) ?_
  refine AllReady.cons rfl (fun K hK => ?_) (AllReady.cons rfl (fun K hK => ?_) AllReady.nil)
  · go_simp
    refine hK _ _ ?_
    clear hK K
    refine wpAny_ready (rs := [5, 7]) (by kernel_rfl) (by simp) ?_
    refine AllReady.cons rfl (fun K hK => ?_) (AllReady.cons rfl (fun K hK => ?_) AllReady.nil)
    · go_simp
      refine hK _ _ ?_
      clear hK K
      refine wpAny_ready (rs := [6, 7]) (by kernel_rfl) (by simp) ?_
      refine AllReady.cons rfl (fun K hK => ?_) (AllReady.cons rfl (fun K hK => ?_) AllReady.nil)
      · refine if_yes rfl ?_
        refine wp_load_mid 52 (.tmp 10) rfl g off rfl X _ HL.out.2 Tryd.underlying52 rfl HI.out.1 ?_
        go_simp
        refine hK _ _ ?_
        clear hK K
        refine wpAny_ready (rs := [7]) (by kernel_rfl) (by simp) ?_
        refine AllReady.cons rfl (fun K hK => ?_) AllReady.nil
        refine if_yes rfl ?_
        refine wp_load_mid 52 (.tmp 3) rfl w.heap.size 0 rfl Y _ HL.out.1 Tryd.underlying52 rfl HI.out.2 ?_
        go_simp
        refine hK _ _ ?_
        clear hK K
        refine wpAny_ready (rs := [8]) (by kernel_rfl) (by simp) ?_
        refine AllReady.cons rfl (fun K hK => ?_) AllReady.nil
        refine if_yes rfl ?_
        refine wp_eql 52 52 (.tmp 11) (.tmp 12) rfl (.agg X.toArray) (.agg Y.toArray) _ rfl rfl (guard52 _ _ _ _ _) (HE.out _) ?_
        go_simp
        refine hK _ _ ?_
        clear hK K
        refine wpAny_ready (rs := [9]) (by kernel_rfl) (by simp) ?_
        refine AllReady.cons rfl (fun K hK => ?_) AllReady.nil
        go_simp
        refine hK _ _ ?_
        clear hK K
        refine wpAny_ready (rs := [10]) (by kernel_rfl) (by simp) ?_
        refine AllReady.cons rfl (fun K hK => ?_) AllReady.nil
        go_simp
        refine hK _ _ ?_
        clear hK K
        refine wpAny_done (by kernel_rfl) ?_ _
        go_wp2
        go_ret
        exact ⟨rfl, hB⟩
      · refine if_yes rfl ?_
        refine wp_load_mid 52 (.tmp 3) rfl w.heap.size 0 rfl Y _ HL.out.1 Tryd.underlying52 rfl HI.out.2 ?_
        go_simp
        refine hK _ _ ?_
        clear hK K
        refine wpAny_ready (rs := [6]) (by kernel_rfl) (by simp) ?_
        refine AllReady.cons rfl (fun K hK => ?_) AllReady.nil
        refine if_yes rfl ?_
        refine wp_load_mid 52 (.tmp 10) rfl g off rfl X _ HL.out.2 Tryd.underlying52 rfl HI.out.1 ?_
        go_simp
        refine hK _ _ ?_
        clear hK K
        refine wpAny_ready (rs := [8]) (by kernel_rfl) (by simp) ?_
        refine AllReady.cons rfl (fun K hK => ?_) AllReady.nil
        refine if_yes rfl ?_
        refine wp_eql 52 52 (.tmp 11) (.tmp 12) rfl (.agg X.toArray) (.agg Y.toArray) _ rfl rfl (guard52 _ _ _ _ _) (HE.out _) ?_
        go_simp
        refine hK _ _ ?_
        clear hK K
        refine wpAny_ready (rs := [9]) (by kernel_rfl) (by simp) ?_
        refine AllReady.cons rfl (fun K hK => ?_) AllReady.nil
        go_simp
        refine hK _ _ ?_
        clear hK K
        refine wpAny_ready (rs := [10]) (by kernel_rfl) (by simp) ?_
        refine AllReady.cons rfl (fun K hK => ?_) AllReady.nil
        go_simp
        refine hK _ _ ?_
        clear hK K
        refine wpAny_done (by kernel_rfl) ?_ _
        go_wp2
        go_ret
        exact ⟨rfl, hB⟩
    · refine if_yes rfl ?_
      refine wp_load_mid 52 (.tmp 3) rfl w.heap.size 0 rfl Y _ HL.out.1 Tryd.underlying52 rfl HI.out.2 ?_
      go_simp
      refine hK _ _ ?_
      clear hK K
      refine wpAny_ready (rs := [5]) (by kernel_rfl) (by simp) ?_
      refine AllReady.cons rfl (fun K hK => ?_) AllReady.nil
      go_simp
      refine hK _ _ ?_
      clear hK K
      refine wpAny_ready (rs := [6]) (by kernel_rfl) (by simp) ?_
      refine AllReady.cons rfl (fun K hK => ?_) AllReady.nil
      refine if_yes rfl ?_
      refine wp_load_mid 52 (.tmp 10) rfl g off rfl X _ HL.out.2 Tryd.underlying52 rfl HI.out.1 ?_
      go_simp
      refine hK _ _ ?_
      clear hK K
      refine wpAny_ready (rs := [8]) (by kernel_rfl) (by simp) ?_
      refine AllReady.cons rfl (fun K hK => ?_) AllReady.nil
      refine if_yes rfl ?_
      refine wp_eql 52 52 (.tmp 11) (.tmp 12) rfl (.agg X.toArray) (.agg Y.toArray) _ rfl rfl (guard52 _ _ _ _ _) (HE.out _) ?_
      go_simp
      refine hK _ _ ?_
      clear hK K
      refine wpAny_ready (rs := [9]) (by kernel_rfl) (by simp) ?_
      refine AllReady.cons rfl (fun K hK => ?_) AllReady.nil
      go_simp
      refine hK _ _ ?_
      clear hK K
      refine wpAny_ready (rs := [10]) (by kernel_rfl) (by simp) ?_
      refine AllReady.cons rfl (fun K hK => ?_) AllReady.nil
      go_simp
      refine hK _ _ ?_
      clear hK K
      refine wpAny_done (by kernel_rfl) ?_ _
      go_wp2
      go_ret
      exact ⟨rfl, hB⟩
  · refine if_yes rfl ?_
    refine wp_load_mid 52 (.tmp 3) rfl w.heap.size 0 rfl Y _ HL.out.1 Tryd.underlying52 rfl HI.out.2 ?_
    go_simp
    refine hK _ _ ?_
    clear hK K
    refine wpAny_ready (rs := [4]) (by kernel_rfl) (by simp) ?_
    refine AllReady.cons rfl (fun K hK => ?_) AllReady.nil
    go_simp
    refine hK _ _ ?_
    clear hK K
    refine wpAny_ready (rs := [5]) (by kernel_rfl) (by simp) ?_
    refine AllReady.cons rfl (fun K hK => ?_) AllReady.nil
    go_simp
    refine hK _ _ ?_
    clear hK K
    refine wpAny_ready (rs := [6]) (by kernel_rfl) (by simp) ?_
    refine AllReady.cons rfl (fun K hK => ?_) AllReady.nil
    refine if_yes rfl ?_
    refine wp_load_mid 52 (.tmp 10) rfl g off rfl X _ HL.out.2 Tryd.underlying52 rfl HI.out.1 ?_
    go_simp
    refine hK _ _ ?_
    clear hK K
    refine wpAny_ready (rs := [8]) (by kernel_rfl) (by simp) ?_
    refine AllReady.cons rfl (fun K hK => ?_) AllReady.nil
    refine if_yes rfl ?_
    refine wp_eql 52 52 (.tmp 11) (.tmp 12) rfl (.agg X.toArray) (.agg Y.toArray) _ rfl rfl (guard52 _ _ _ _ _) (HE.out _) ?_
    go_simp
    refine hK _ _ ?_
    clear hK K
    refine wpAny_ready (rs := [9]) (by kernel_rfl) (by simp) ?_
    refine AllReady.cons rfl (fun K hK => ?_) AllReady.nil
    go_simp
    refine hK _ _ ?_
    clear hK K
    refine wpAny_ready (rs := [10]) (by kernel_rfl) (by simp) ?_
    refine AllReady.cons rfl (fun K hK => ?_) AllReady.nil
    go_simp
    refine hK _ _ ?_
    clear hK K
    refine wpAny_done (by kernel_rfl) ?_ _
    go_wp2
    go_ret
    exact ⟨rfl, hB⟩
end Go.Proofs.YtkkammbfomiofaaDoor
