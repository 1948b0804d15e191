/-
  Dc, Held, Name, NameB, Ino, EncT.
-/
import Derived.Test.YtonpdbajoidigaaGreatDoorGk
import Derived.Test.YtonpdbajoidigaaGreatDoorProg
import Derived.WalkKit
import Derived.WalkSpells
import Derived.WalkLawsBesides
import Derived.Laws.NewBlocks
import Derived.Test.YtonpdbajoidigaaGreatDoorGg
import Derived.Test.YtonpdbajoidigaaGreatDoorGb
import Derived.Test.YtonpdbajoidigaaGreatDoorGh
/-
  ranOut, DecodeTable's deferred closure, readEntry.
-/
namespace Go.Proofs.YtonpdbajoidigaaGreatDoor
open Go.RowKit
set_option linter.unusedSimpArgs false
set_option linter.unusedVariables false

theorem assert_outT (w : World) : (Instr.typeAssert (.iface 200 (.agg #[])) 20 200 true).run Tryz.prog w = .ok (.tuple #[.agg #[], .bool true]) w := by
  unfold Instr.typeAssert
  simp [run_underlying Tryz.underlying200]

set_option maxHeartbeats 400000 in
theorem ranOut_outT (w : World) : Calls Tryz.prog 103 #[.iface 200 (.agg #[])] w fun e w' => e = .returned (.bool true) ∧ Below w.heap.size w w' := by
  have hta := assert_outT
  go_enter Tryz.func103, Tryz.ntmps103
  go_wp2
  go_ret
  exact ⟨rfl, (Below.refl _ _).alloc (Nat.le_refl _) _⟩
set_option maxHeartbeats 400000 in
theorem ranOut_nilT (w : World) : Calls Tryz.prog 103 #[.nilIface] w fun e w' => e = .returned (.bool false) ∧ w' = w := by
  go_enter Tryz.func103, Tryz.ntmps103
  go_wp2
  go_ret
  exact ⟨rfl, rfl⟩

set_option maxHeartbeats 400000 in
theorem catch_outT (g : Nat) (x0 x1 : Value) (w : World) (hg : w.heap[g]? = some (.cells #[x0, x1] 141 (0, 0))) :
    CallsD Tryz.prog 107 #[.pointer (some ⟨g, 0, none⟩)] (.panicking outV) w fun e u' w' =>
      e = .returned (.tuple #[]) ∧ u' = .panicking [{ v := .iface 200 (.agg #[]), recovered := true }] ∧ Kept (fun x => x = g) w w' ∧ w'.cell? ⟨g, 0, none⟩ = some (.bool false) ∧ w'.cell? ⟨g, 1, none⟩ = some (.slice none 0 0) := by
  refine callsD_of_wpS Tryz.func107 rfl fun c₀ cs hu => ?_
  apply wpS_seq
  apply wpS_region
  simp [wpOpsS, go_sem, recoverD, hu, outV, Tryz.ntmps107, Exit.thenS]
  refine (ranOut_outT w).mono ?_
  rintro e w1 ⟨rfl, hb⟩
  have lg : g < w.heap.size := (Array.getElem?_eq_some_iff.1 hg).1
  have k1 := (hb.block g lg).trans hg
  have t0 : w1.cell? ⟨g, 0, none⟩ = some x0 := by rw [cell_of_row w1 g 0 _ _ _ k1]; rfl
  have t1 : w1.cell? ⟨g, 1, none⟩ = some x1 := by rw [cell_of_row w1 g 1 _ _ _ k1]; rfl
  have z0 : w1.frozen? ⟨g, 0, none⟩ = false := by simp [World.frozen?, k1]
  have z1 : w1.frozen? ⟨g, 1, none⟩ = false := by simp [World.frozen?, k1]
  refine wpS_cond (t := true) (by simp [Act.eval, Array.replicate]) ?_
  simp only [if_true]
  apply wpS_region
  simp [wpOpsS, go_sem, t0, t1, z0, z1, bodyPostS, results, Tryz.results107]
  have hG : (fun x => x = g) g := rfl
  exact ((Kept.of_below hb (fun x => x = g)).trans (Kept.setCell w1 ⟨g, 0, none⟩ (.bool false) (fun x => x = g) hG)).trans (Kept.setCell _ ⟨g, 1, none⟩ (.slice none 0 0) (fun x => x = g) hG)

set_option maxHeartbeats 400000 in
theorem catch_idleT (g : Nat) (w : World) :
    CallsD Tryz.prog 107 #[.pointer (some ⟨g, 0, none⟩)] .returning w fun e u' w' => e = .returned (.tuple #[]) ∧ u' = .returning ∧ w' = w := by
  refine callsD_of_wpS Tryz.func107 rfl fun c₀ cs hu => ?_
  apply wpS_seq
  apply wpS_region
  simp [wpOpsS, go_sem, recoverD, hu, Tryz.ntmps107, Exit.thenS]
  refine (ranOut_nilT w).mono ?_
  rintro e w1 ⟨rfl, rfl⟩
  refine wpS_cond (t := false) (by simp [Act.eval, Array.replicate]) ?_
  simp only [Bool.false_eq_true, if_false]
  refine wpS_of_wp (wp_skip ?_)
  cases c₀
  simp_all [bodyPostS, results, Tryz.results107]

/-- The number of two bytes; the entry that they make. -/
def ent2 (xs : List Int) : Int := numI (xs.take 2)
theorem ent2_bounds {xs : List Int} (hl : 2 ≤ xs.length) (h : ∀ i, i < xs.length → 0 ≤ xs[i]?.getD 0 ∧ xs[i]?.getD 0 ≤ 255) : 0 ≤ ent2 xs ∧ ent2 xs ≤ 65535 ∧ wrap64 (numI (xs.take 2)) = ent2 xs := by
  match xs, hl with
  | x :: y :: l, _ =>
    have h0 := h 0 (by simp)
    have h1 := h 1 (by simp)
    simp at h0 h1
    have e : numI ((x :: y :: l).take 2) = (0 * 256 + x) * 256 + y := rfl
    unfold ent2
    rw [e]
    refine ⟨by omega, by omega, ?_⟩
    unfold wrap64; omega

theorem heap_one {w : World} {r : Nat} {v0 v : Value} {t : TypeId} (h : w.heap[r]? = some (.cells #[v0] t (0, 0))) : (w.setCell ⟨r, 0, none⟩ v).heap[r]? = some (.cells #[v] t (0, 0)) := by
  simp [World.setCell, Array.getElem?_modify, h]

set_option maxHeartbeats 1000000 in
theorem readEntry_long (r : Nat) (a : Option Addr) (n c : Nat) (xs : List Int) (w0 w : World) (ha : IRow .u8 w0 a n xs) (hb : Below w0.heap.size w0 w) (hr : w0.heap.size ≤ r) (h0 : w.cell? ⟨r, 0, none⟩ = some (.slice a n c)) (hf : w.frozen? ⟨r, 0, none⟩ = false) (hk : 2 ≤ n) (hc : n ≤ c) (hm : c ≤ 9223372036854775807) (hby : ∀ i, i < n → 0 ≤ xs[i]?.getD 0 ∧ xs[i]?.getD 0 ≤ 255) :
    Calls Tryz.prog 108 #[.pointer (some ⟨r, 0, none⟩)] w fun e w' => e = .returned (.agg #[.int .i64 (ent2 xs % 32768), .bool (decide (32768 ≤ ent2 xs))]) ∧ Kept (fun g => g = r) w w' ∧ ∃ a' c', w'.cell? ⟨r, 0, none⟩ = some (.slice a' (n - 2) c') ∧ w'.frozen? ⟨r, 0, none⟩ = false ∧ n - 2 ≤ c' ∧ c' ≤ c ∧ IRow .u8 w0 a' (n - 2) (xs.drop 2) ∧ (∀ v0 t, w.heap[r]? = some (.cells #[v0] t (0, 0)) → w'.heap[r]? = some (.cells #[.slice a' (n - 2) c'] t (0, 0))) := by
  have hrw : r < w.heap.size := World.block_lt_of_cell? w _ h0
  have hbA : ∀ o, Below w0.heap.size w0 (w.alloc o) := fun o => hb.alloc hb.size _
  have h0A : ∀ o, (w.alloc o).cell? ⟨r, 0, none⟩ = some (.slice a n c) := fun o => (World.cell?_alloc_old w o _ (by simp; omega)).trans h0
  have hfA : ∀ o, (w.alloc o).frozen? ⟨r, 0, none⟩ = false := fun o => (World.frozen?_alloc_old w o _ (by simp; omega)).trans hf
  have hs0 := hb.size
  obtain ⟨v1, v2, v3⟩ := ent2_bounds (xs := xs) (by rw [ha.1]; exact hk) (fun i hi => hby i (by rw [← ha.1]; exact hi))
  have HV : Hid (wrap64 (numI (xs.take 2)) = ent2 xs) := v3
  clear v3
  go_enter Tryz.func108, Tryz.ntmps108
  go_wp2_with fail
  refine (number_long r a n c 2 xs w0 _ ha (hbA _) hr (h0A _) (hfA _) (by omega) (by omega) (by omega) hc hm hby).mono ?_
  rintro e w1 ⟨rfl, a1, c1, k1, f1, l1, m1, r1, b1, e1⟩
  rw [HV.out]
  have x1 : w1.heap[w.heap.size]? = some (.cells #[.int .i64 0, .bool false] 164 (0, 0)) := by rw [e1, setCell_block (by omega)]; exact heap_alloc_new w _
  have K1 : Kept (fun g => g = r ∨ w.heap.size ≤ g) w w1 := by rw [e1]; exact (Kept.of_below ((Below.refl _ _).alloc (Nat.le_refl _) _) _).trans (Kept.setCell _ _ _ _ (Or.inl rfl))
  have t0 : w1.cell? ⟨w.heap.size, 0, none⟩ = some (.int .i64 0) := by rw [cell_of_row w1 w.heap.size 0 _ _ _ x1]; rfl
  have t1 : w1.cell? ⟨w.heap.size, 1, none⟩ = some (.bool false) := by rw [cell_of_row w1 w.heap.size 1 _ _ _ x1]; rfl
  have z0 : w1.frozen? ⟨w.heap.size, 0, none⟩ = false := by simp [World.frozen?, x1]
  have z1 : w1.frozen? ⟨w.heap.size, 1, none⟩ = false := by simp [World.frozen?, x1]
  have H1 : Hid (∀ v0 t, w.heap[r]? = some (.cells #[v0] t (0, 0)) → w1.heap[r]? = some (.cells #[.slice a1 (n - 2) c1] t (0, 0))) := fun v0 t h => by rw [e1]; exact heap_one ((heap_alloc_old w _ hrw).trans h)
  generalize hve : ent2 xs = v at *
  have HVE : Hid (ent2 xs = v) := hve
  clear hve
  clear h0 hf hb hbA h0A hfA e1 x1 ha
  go_wp2
  refine bodyPost_ret (v := .agg #[.int .i64 (v % 32768), .bool (decide (32768 ≤ v))]) (by simp [results, Tryz.results108, go_sem, t0, t1]) rfl ?_
  refine ⟨by rw [HVE.out], kept_new ((K1.trans (Kept.setCell _ _ _ _ (Or.inr (Nat.le_refl _)))).trans (Kept.setCell _ _ _ _ (Or.inr (Nat.le_refl _)))), a1, c1, ?_, ?_, l1, m1, r1, fun v0 t h => by rw [setCell_block (by omega), setCell_block (by omega)]; exact H1.out v0 t h⟩
  · rw [World.cell?_setCell_other _ _ _ _ (by intro e; injection e with e; omega), World.cell?_setCell_other _ _ _ _ (by intro e; injection e with e; omega)]; exact k1
  · rw [World.frozen?_setCell, World.frozen?_setCell]; exact f1
theorem readEntry_short (r : Nat) (a : Option Addr) (n c : Nat) (w : World) (h0 : w.cell? ⟨r, 0, none⟩ = some (.slice a n c)) (hk : n < 2) :
    Calls Tryz.prog 108 #[.pointer (some ⟨r, 0, none⟩)] w fun e w' => e = .panicked outV ∧ Below w.heap.size w w' := by
  have hrw : r < w.heap.size := World.block_lt_of_cell? w _ h0
  have h0A : ∀ o, (w.alloc o).cell? ⟨r, 0, none⟩ = some (.slice a n c) := fun o => (World.cell?_alloc_old w o _ (by simp; omega)).trans h0
  go_enter Tryz.func108, Tryz.ntmps108
  go_wp2_with fail
  refine (number_short r a n c 2 _ (h0A _) hk).mono ?_
  rintro e w1 ⟨rfl, rfl⟩
  exact ⟨rfl, rfl, (Below.refl _ _).alloc (Nat.le_refl _) _⟩
end Go.Proofs.YtonpdbajoidigaaGreatDoor

/-
  heldEntryS.
-/
namespace Go.Proofs.YtonpdbajoidigaaGreatDoor
open Go.RowKit
set_option linter.unusedSimpArgs false
set_option linter.unusedVariables false

end Go.Proofs.YtonpdbajoidigaaGreatDoor

/-
  The walks over names: spec.ValidName and impl.ValidName answer the same.
-/
namespace Go.Proofs.YtonpdbajoidigaaGreatDoor
open Go.RowKit

theorem ret_bool {a b : Bool} (h : a = b) : Ending.returned (.bool a) = .returned (.bool b) := by rw [h]

/-- A byte that a name may hold. -/
def nbB (c : Int) : Bool := (decide (97 ≤ c) && decide (c ≤ 122)) || (decide (48 ≤ c) && decide (c ≤ 57)) || decide (c = 46) || decide (c = 95) || decide (c = 45)

set_option maxHeartbeats 400000 in
theorem nameByte_impl (c : Int) (w : World) (h0 : 0 ≤ c) (h1 : c ≤ 255) :
    Calls Tryz.prog 159 #[.int .u8 c] w fun e w' => e = .returned (.bool (nbB c)) ∧ w' = w := by
  go_enter Tryz.func159, Tryz.ntmps159
  go_wp2
  all_goals (go_ret; exact ⟨ret_bool (by rw [Bool.eq_iff_iff]; simp [nbB]; try omega), rfl⟩)

/-- All bytes may stand in a name. -/
def allB (l : List UInt8) : Bool := l.all fun c => nbB (c.toNat : Int)
/-- A valid name. -/
def nameB (s : ByteArray) : Bool := allB s.data.toList && (decide (1 ≤ s.size) && decide (s.size ≤ 16))

theorem take_snoc (s : ByteArray) (k : Nat) (h : k < s.size) : s.data.toList.take (k + 1) = s.data.toList.take k ++ [s[k]] := by
  rw [List.take_succ_eq_append_getElem (by simpa using h)]; rfl
theorem allB_snoc (s : ByteArray) (k : Nat) (h : k < s.size) : allB (s.data.toList.take (k + 1)) = (allB (s.data.toList.take k) && nbB ((s[k]).toNat : Int)) := by
  rw [take_snoc s k h]; simp [allB]
theorem allB_whole (s : ByteArray) (k : Nat) (h : ¬ k < s.size) : allB (s.data.toList.take k) = allB s.data.toList := by
  rw [List.take_of_length_le (by simp; omega)]
theorem allB_no (s : ByteArray) (k : Nat) (h : k < s.size) (hn : nbB ((s[k]).toNat : Int) = false) : allB s.data.toList = false := by
  have e := allB_snoc s k h
  rw [hn, Bool.and_false] at e
  have := List.take_append_drop (k + 1) s.data.toList
  rw [← this]
  simp only [allB, List.all_append, Bool.and_eq_false_iff] at e ⊢
  exact .inl e

end Go.Proofs.YtonpdbajoidigaaGreatDoor

namespace Go.Proofs.YtonpdbajoidigaaGreatDoor
open Go.RowKit

theorem conv_cell (w : World) (s : ByteArray) (cap : Nat) (m : Nat × Nat) (j : Nat) (h : j < s.size) :
    (w.alloc (.cells (bytesRow s cap) 5 m)).drew.cell? ⟨w.heap.size, j, none⟩ = some (.int .u8 ((s[j]).toNat : Int)) := by
  have e := cell_of_row (w.alloc (.cells (bytesRow s cap) 5 m)).drew w.heap.size j (bytesRow s cap) 5 m (heap_alloc_new w _)
  rw [e, bytesRow_at s cap j h]; rfl

set_option maxHeartbeats 1000000 in
theorem validName_impl (s : ByteArray) (w : World) (hs : s.size ≤ 1048576) :
    Calls Tryz.prog 99 #[.string s] w fun e w' => e = .returned (.bool (nameB s)) ∧ Below w.heap.size w w' := by
  by_cases hsz : 1 ≤ s.size ∧ s.size ≤ 16
  · obtain ⟨h1, h2⟩ := hsz
    have t1 : decide ((s.size : Int) < 1) = false := by simp; omega
    have t2 : decide (16 < (s.size : Int)) = false := by simp; omega
    have hcv := fun w s => run_bytes_of_string (P := Tryz.prog) w 9 22 5 s Tryz.underlying9 Tryz.underlying22 Tryz.underlying5
    go_enter Tryz.func99, Tryz.ntmps99
    go_wp2
    go_loopw [16] (fun i wr => ∃ k : Nat, k ≤ s.size ∧ i = .int .i64 k ∧ allB (s.data.toList.take k) = true ∧ (∀ j (h : j < s.size), wr.cell? ⟨w.heap.size, j, none⟩ = some (.int .u8 ((s[j]).toNat : Int))) ∧ Below w.heap.size w wr) (fun i _ => s.size - (intOf i).toNat)
    case atStart => exact ⟨0, Nat.zero_le _, rfl, rfl, fun j h => conv_cell w s _ _ j h, ((Below.refl _ _).alloc (Nat.le_refl _) _).drew⟩
    case round =>
      obtain ⟨k, hk, rfl, hall, hcs, hbel⟩ := hrel
      have HA : Hid (allB (s.data.toList.take k) = true) := hall
      clear hall
      by_cases hlt : k < s.size
      · have b1 : (0 : Int) ≤ ((s[k]).toNat : Int) := by omega
        have b2 : ((s[k]).toNat : Int) ≤ 255 := by have := (s[k]).toNat_lt; omega
        have hck := hcs k hlt
        have HC : Hid (∀ j (h : j < s.size), wr.cell? ⟨w.heap.size, j, none⟩ = some (.int .u8 ((s[j]).toNat : Int))) := hcs
        clear hcs
        cases hb : nbB ((s[k]).toNat : Int)
        · have HN := allB_no s k hlt hb
          have HF : Hid (nameB s = false) := by show nameB s = false; simp [nameB, HN]
          clear HN
          go_wp2_with (go_at_call 159; refine (nameByte_impl _ _ b1 b2).mono ?_; rintro e w' ⟨rfl, rfl⟩; rw [hb])
          go_ret
          exact ⟨ret_bool HF.out.symm, hbel⟩
        · have HS : Hid (allB (s.data.toList.take (k + 1)) = true) := by show _ = true; rw [allB_snoc s k hlt, HA.out, hb]; rfl
          go_wp2_with (go_at_call 159; refine (nameByte_impl _ _ b1 b2).mono ?_; rintro e w' ⟨rfl, rfl⟩; rw [hb])
          go_roundw
          case rel => exact ⟨k + 1, by omega, by go_num, HS.out, HC.out, hbel⟩
          case measure => simp [intOf]; omega
      · have HW : Hid (nameB s = true) := by show _ = _; rw [nameB, ← allB_whole s k hlt, HA.out]; simp; omega
        clear hcs
        go_wp2
        go_ret
        exact ⟨ret_bool HW.out.symm, hbel⟩
  · have HF : Hid (nameB s = false) := by
      show nameB s = false
      simp only [nameB, Bool.and_eq_false_iff, decide_eq_false_iff_not]
      omega
    by_cases h1 : s.size < 1
    · go_enter Tryz.func99, Tryz.ntmps99
      go_wp2
      go_ret
      exact ⟨ret_bool HF.out.symm, Below.refl _ _⟩
    · have h2 : 16 < s.size := by omega
      go_enter Tryz.func99, Tryz.ntmps99
      go_wp2
      go_ret
      exact ⟨ret_bool HF.out.symm, Below.refl _ _⟩

end Go.Proofs.YtonpdbajoidigaaGreatDoor

/-
  Inodes: szInode, toInode, eqInode, markInode; l2Blocks, dataBlocks.
-/
namespace Go.Proofs.YtonpdbajoidigaaGreatDoor
open Go.RowKit
set_option linter.unusedSimpArgs false
set_option linter.unusedVariables false

theorem three_cellsI {w1 : World} {g : Nat} {t : TypeId} {x y z : Value} (h : w1.heap[g]? = some (.cells #[x, y, z] t (0, 0))) : (w1.cell? ⟨g, 0, none⟩ = some x ∧ w1.cell? ⟨g, 1, none⟩ = some y ∧ w1.cell? ⟨g, 2, none⟩ = some z) ∧ w1.frozen? ⟨g, 0, none⟩ = false ∧ w1.frozen? ⟨g, 1, none⟩ = false ∧ w1.frozen? ⟨g, 2, none⟩ = false := by
  refine ⟨⟨by rw [cell_of_row w1 g 0 _ _ _ h]; rfl, by rw [cell_of_row w1 g 1 _ _ _ h]; rfl, by rw [cell_of_row w1 g 2 _ _ _ h]; rfl⟩, ?_, ?_, ?_⟩ <;> simp [World.frozen?, h]
theorem IRow.allocI {k : IntKind} {w : World} {a : Option Addr} {n : Nat} {xs : List Int} (h : IRow k w a n xs) (o : Obj) : IRow k (w.alloc o) a n xs :=
  h.below ((Below.refl _ _).alloc (Nat.le_refl _) _)
theorem Row.allocI {k : IntKind} {G : Nat → Prop} {w : World} {a : Option Addr} {n : Nat} {xs : List Int} (h : Row k G w a n xs) (o : Obj) : Row k G (w.alloc o) a n xs :=
  h.below ((Below.refl _ _).alloc (Nat.le_refl _) _)

theorem three_varsI {w w1 : World} {o1 o2 o3 : Obj} (hb : Below (((w.alloc o1).alloc o2).alloc o3).heap.size (((w.alloc o1).alloc o2).alloc o3) w1) :
    w1.heap[w.heap.size]? = some o1 ∧ w1.heap[w.heap.size + 1]? = some o2 ∧ w1.heap[w.heap.size + 2]? = some o3 := by
  have s1 : (w.alloc o1).heap.size = w.heap.size + 1 := by simp
  have s2 : ((w.alloc o1).alloc o2).heap.size = w.heap.size + 2 := by simp
  have s3 : (((w.alloc o1).alloc o2).alloc o3).heap.size = w.heap.size + 3 := by simp
  refine ⟨?_, ?_, ?_⟩
  · rw [hb.block _ (by rw [s3]; omega), heap_alloc_old _ _ (by rw [s2]; omega), heap_alloc_old _ _ (by rw [s1]; omega)]; exact heap_alloc_new w o1
  · rw [hb.block _ (by rw [s3]; omega), heap_alloc_old _ _ (by rw [s2]; omega), ← s1]; exact heap_alloc_new _ o2
  · rw [hb.block _ (by rw [s3]; omega), ← s2]; exact heap_alloc_new _ o3

/-- The blocks of a size. -/
def nblkI (z : Int) : Int := (z + 63) / 64

theorem dataBlocks_anyI (z : Int) (w : World) (h0 : 0 ≤ z) (h1 : z ≤ 1408) : Calls Tryz.prog 33 #[.int .i64 z] w fun e w' => e = .returned (.int .i64 (nblkI z)) ∧ w' = w := by
  go_enter Tryz.func33, Tryz.ntmps33
  go_wp2
  go_ret
  exact ⟨ret_int (by unfold nblkI; omega), rfl⟩

end Go.Proofs.YtonpdbajoidigaaGreatDoor

/-
  EncodeTable, the specification's and the program's.
-/
namespace Go.Proofs.YtonpdbajoidigaaGreatDoor
open Go.RowKit
set_option linter.unusedSimpArgs false
set_option linter.unusedVariables false

/-- A valid entry. -/
def veB (x : Int) (b : Bool) : Bool := decide (0 ≤ x) && (decide (x ≤ 32767) && (decide (x ≠ 0) || !b))
/-- The number of an entry. -/
def eNum (x : Int) (b : Bool) : Int := if b then x + 32768 else x
/-- The bytes of entries. -/
def eBytes (es : List (Int × Bool)) : List Int := es.flatMap fun e => beB (eNum e.1 e.2) 2
def eAll (es : List (Int × Bool)) : Bool := es.all fun e => veB e.1 e.2
def encT (es : List (Int × Bool)) : List Int := if es.length ≤ 1024 ∧ eAll es = true then eBytes es else []

set_option maxHeartbeats 1000000 in
theorem validEntry_impl (x : Int) (b : Bool) (w : World) :
    Calls Tryz.prog 109 #[.agg #[.int .i64 x, .bool b]] w fun e w' => e = .returned (.bool (veB x b)) ∧ Below w.heap.size w w' := by
  have HB : ∀ o, Below w.heap.size w (w.alloc o) := fun o => (Below.refl _ _).alloc (Nat.le_refl _) o
  by_cases h1 : x < 0
  · go_enter Tryz.func109, Tryz.ntmps109
    go_wp2
    go_ret
    exact ⟨ret_boolB (by simp [veB]; omega), HB _⟩
  by_cases h2 : 32767 < x
  · go_enter Tryz.func109, Tryz.ntmps109
    go_wp2
    go_ret
    exact ⟨ret_boolB (by simp [veB]; omega), HB _⟩
  by_cases h3 : x = 0
  · subst h3
    have h5 : ((0 : Int) != 0) = false := rfl
    go_enter Tryz.func109, Tryz.ntmps109
    go_wp2
    go_ret
    exact ⟨ret_boolB (by simp [veB]), HB _⟩
  · have h4 : 0 < x := by omega
    have h5 : (x != 0) = true := by simpa using h3
    clear h3
    go_enter Tryz.func109, Tryz.ntmps109
    go_wp2
    go_ret
    exact ⟨ret_boolB (by simp [veB]; omega), HB _⟩

theorem entryNumber_any (x : Int) (b : Bool) (w : World) (h0 : 0 ≤ x) (h1 : x ≤ 32767) :
    Calls Tryz.prog 147 #[.agg #[.int .i64 x, .bool b]] w fun e w' => e = .returned (.agg #[.int .i64 2, .int .i64 (eNum x b)]) ∧ Below w.heap.size w w' := by
  have HB : ∀ o o', Below w.heap.size w ((w.alloc o).alloc o') := fun o o' => ((Below.refl _ _).alloc (Nat.le_refl _) _).alloc (by simp) _
  cases b
  · go_enter Tryz.func147, Tryz.ntmps147
    go_wp2
    exact bodyPost_ret (v := .agg #[.int .i64 2, .int .i64 x]) (by simp [results, Tryz.results147, go_sem]) rfl ⟨rfl, HB _ _⟩
  · go_enter Tryz.func147, Tryz.ntmps147
    go_wp2
    exact bodyPost_ret (v := .agg #[.int .i64 2, .int .i64 (x + 32768)]) (by simp [results, Tryz.results147, go_sem]) rfl ⟨rfl, HB _ _⟩

theorem owns_below {w w' : World} {B e sz n : Nat} {s : Value} {xs : List Value} (h : w.ownsRow B e sz s n xs) (hb : Below w.heap.size w w') : w'.ownsRow B e sz s n xs :=
  h.kept (row := none) ⟨hb.os, hb.tape, hb.output, hb.size, fun k hk _ => hb.block k hk⟩ (by cases hv : s.ownBlock <;> simp)

theorem e_at (es : List (Int × Bool)) (k : Nat) (h : k < es.length) : es[k] = (eA es k, eI es k) := by simp [eA, eI, List.getElem?_eq_getElem h]
theorem eBytes_succ (es : List (Int × Bool)) (k : Nat) (h : k < es.length) : eBytes (es.take (k + 1)) = eBytes (es.take k) ++ beB (eNum (eA es k) (eI es k)) 2 := by
  rw [List.take_succ_eq_append_getElem h, e_at es k h]
  simp only [eBytes, List.flatMap_append, List.flatMap_cons, List.flatMap_nil, List.append_nil]
theorem eBytes_len (es : List (Int × Bool)) : (eBytes es).length = es.length * 2 := by
  induction es with
  | nil => rfl
  | cons e es ih => simp only [eBytes, List.flatMap_cons, List.length_append, beB_len, List.length_cons] at ih ⊢; omega
theorem eAll_succ (es : List (Int × Bool)) (k : Nat) (h : k < es.length) : eAll (es.take (k + 1)) = (eAll (es.take k) && veB (eA es k) (eI es k)) := by
  rw [List.take_succ_eq_append_getElem h, e_at es k h]
  simp [eAll]
theorem eAll_no (es : List (Int × Bool)) (k : Nat) (h : k < es.length) (hn : veB (eA es k) (eI es k) = false) : eAll es = false := by
  have e := eAll_succ es k h
  rw [hn, Bool.and_false] at e
  rw [← List.take_append_drop (k + 1) es]
  simp only [eAll, List.all_append, Bool.and_eq_false_iff] at e ⊢
  exact .inl e
theorem veB_bounds {x : Int} {b : Bool} (h : veB x b = true) : 0 ≤ x ∧ x ≤ 32767 := by
  simp only [veB, Bool.and_eq_true, decide_eq_true_eq] at h; exact ⟨h.1, h.2.1⟩
theorem eNum_bounds {x : Int} {b : Bool} (h0 : 0 ≤ x) (h1 : x ≤ 32767) : 0 ≤ eNum x b ∧ eNum x b ≤ 65535 := by
  unfold eNum; split <;> omega

end Go.Proofs.YtonpdbajoidigaaGreatDoor
