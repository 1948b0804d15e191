/-
  Srm, Srn, Srp, Srq.
-/
import Derived.Test.YtonpdbajoidigaaGreatDoorGu
import Derived.BigRegion
import Derived.Test.YtonpdbajoidigaaGreatDoorGz
import Derived.Test.YtonpdbajoidigaaGreatDoorGj
/-
  FnSpace: choices and decimals.
-/
namespace Go.Proofs.YtonpdbajoidigaaGreatDoor
open Go.RowKit
set_option linter.unusedSimpArgs false
set_option linter.unusedVariables false

/-- Some choice below n: the bytes are read, nothing is written. -/
theorem lwa_range (x m : Int) (h : 0 < m) : 0 ≤ x % m ∧ x % m < m := ⟨Int.emod_nonneg _ (by omega), Int.emod_lt_of_pos _ h⟩
theorem below_drewNW (w : World) (d : Nat) : Below w.heap.size w (w.drewN d) := (Kept.drewN w d (fun _ => False)).below (Nat.le_refl _) (fun g hg => hg.elim)
set_option maxHeartbeats 1000000 in
set_option maxRecDepth 100000 in
theorem lwAt_any (a : Option Addr) (l ca : Nat) (xs : List Int) (i : Nat) (m : Int) (w : World) (h : IRow .u8 w a l xs) (hx : ∀ i, i < l → 0 ≤ xs[i]?.getD 0 ∧ xs[i]?.getD 0 ≤ 255) (hl : l ≤ 2097152) (hi : i ≤ 2097152) (hm : 2 ≤ m) (hm2 : m ≤ 1000000) :
    Calls Tryz.prog 4 #[.slice a l ca, .int .i64 i, .int .i64 m] w fun e w' => ∃ v, e = .returned (.int .i64 v) ∧ (0 ≤ v ∧ v < m) ∧ Below w.heap.size w w' := by
  by_cases h0 : l = 0
  · subst h0
    have hr := lwa_range ((i : Int) * 7) m (by omega)
    have HR : Hid (0 ≤ ((i : Int) * 7) % m ∧ ((i : Int) * 7) % m < m) := hr
    clear h hx hr
    go_enter Tryz.func4, Tryz.ntmps4
    go_wp2
    go_ret
    exact ⟨_, rfl, HR.out, Below.refl _ _⟩
  · obtain ⟨g, off, rfl, hc⟩ := h.2.resolve_left h0
    have hq : i % l < l := Nat.mod_lt _ (by omega)
    have c1 := hc (i % l) hq
    obtain ⟨x0, x1⟩ := hx (i % l) hq
    have gl := World.block_lt_of_cell? w _ c1
    generalize xs[i % l]?.getD 0 = x at *
    have hr := lwa_range (x + (i : Int) / (l : Int)) m (by omega)
    have HR : Hid (0 ≤ (x + (i : Int) / (l : Int)) % m ∧ (x + (i : Int) / (l : Int)) % m < m) := hr
    have d0 : 0 ≤ (i : Int) / (l : Int) := Int.ediv_nonneg (by omega) (by omega)
    have d1 : (i : Int) / (l : Int) ≤ i := Int.ediv_le_self _ (by omega)
    have e0 : (i : Int) % (l : Int) = ((i % l : Nat) : Int) := by simp
    generalize i % l = q at *
    have l0 : 0 < l := by omega
    clear h hc hx hr
    go_enter Tryz.func4, Tryz.ntmps4
    go_wp2
    go_quiet (fail)
    go_wp2
    go_ret
    exact ⟨_, rfl, HR.out, below_drewNW _ _⟩
/-- The digits of a small number. -/
def decN (v : Nat) : ByteArray := if v < 10 then strOf [48 + (v : Int)] else strOf [48 + (v : Int) / 10] ++ strOf [48 + (v : Int) % 10]
theorem one_row (w : World) (x : Int) : IRow .u8 (w.alloc (.cells #[.int .u8 x] 5)) (some ⟨w.heap.size, 0, none⟩) 1 [x] := by
  refine ⟨rfl, .inr ⟨_, 0, rfl, fun i hi => ?_⟩⟩
  obtain rfl : i = 0 := by omega
  rw [Nat.zero_add]
  have := heap_alloc_new w (.cells #[.int .u8 x] 5)
  rw [cell_of_row _ _ 0 _ _ _ this]
  rfl
theorem one_byt {x : Int} (h0 : 0 ≤ x) (h1 : x ≤ 255) : Byt [x] := by
  intro y hy
  obtain rfl := List.mem_singleton.1 hy
  exact ⟨h0, h1⟩
set_option maxHeartbeats 1000000 in
set_option maxRecDepth 100000 in
theorem lwDec_small (v : Nat) (w : World) (hv : v < 10) :
    Calls Tryz.prog 5 #[.int .i64 (v : Int)] w fun e w' => e = .returned (.string (strOf [48 + (v : Int)])) ∧ Below w.heap.size w w' := by
  have hcv := conv_str 1 (one_row w (48 + (v : Int))) (one_byt (by omega) (by omega))
  have hlt : (v : Int) < 10 := by omega
  have HB : Hid (∀ o, Below w.heap.size w (w.alloc o)) := fun o => (Below.refl _ _).alloc (Nat.le_refl _) _
  go_enter Tryz.func5, Tryz.ntmps5
  go_wp2
  go_ret
  exact ⟨rfl, HB.out _⟩
set_option maxHeartbeats 1000000 in
set_option maxRecDepth 100000 in
theorem lwDec_big (v : Nat) (w : World) (hv : 10 ≤ v) (hv' : v < 100) :
    Calls Tryz.prog 5 #[.int .i64 (v : Int)] w fun e w' => e = .returned (.string (strOf [48 + (v : Int) / 10] ++ strOf [48 + (v : Int) % 10])) ∧ Below w.heap.size w w' := by
  obtain ⟨q, hq⟩ : ∃ q : Nat, (v : Int) / 10 = (q : Int) := ⟨v / 10, by omega⟩
  obtain ⟨x, hx⟩ : ∃ x, 48 + (v : Int) % 10 = x := ⟨_, rfl⟩
  have hx0 : 0 ≤ x ∧ x ≤ 255 := by omega
  have hq0 : q < 10 := by omega
  have HC : Hid (∀ V, Calls Tryz.prog 5 #[.int .i64 (q : Int)] V fun e w' => e = .returned (.string (strOf [48 + (q : Int)])) ∧ Below V.heap.size V w') := fun V => lwDec_small q V hq0
  have hbt : Byt [x] := one_byt hx0.1 hx0.2
  have hc0 : (convert 22 9 (.slice (some ⟨w.heap.size, 0, none⟩) 1 1)).run Tryz.prog ((w.alloc (.cells #[.int .u8 x] 5)).drew) = .ok (.string (strOf [x])) ((w.alloc (.cells #[.int .u8 x] 5)).drew) := conv_str 1 ((one_row w x).below (Below.refl _ _).drew) hbt
  have HB0 : Hid (Below w.heap.size w (w.alloc (.cells #[.int .u8 x] 5)).drew) := ((Below.refl _ _).alloc (Nat.le_refl _) _).drew
  have hlt : ¬ ((v : Int) < 10) := by omega
  have hqd : Int.tdiv (v : Int) 10 = (q : Int) := by rw [← hq]; exact Int.tdiv_eq_ediv_of_nonneg (by omega)
  have hxm : 48 + Int.tmod (v : Int) 10 = x := by rw [← hx, Int.tmod_eq_emod_of_nonneg (by omega)]
  rw [hq, hx]
  go_enter Tryz.func5, Tryz.ntmps5
  go_wp2_with fail
  obtain ⟨hx1, hx2⟩ := hx0
  clear hq hx
  obtain ⟨o, ho⟩ : ∃ o : Obj, .cells #[.int .u8 x] 5 = o := ⟨_, rfl⟩
  have HCV : Hid (∀ V : World, (convert 22 9 (.slice (some ⟨V.heap.size, 0, none⟩) 1 1)).run Tryz.prog (V.alloc o) = .ok (.string (strOf [x])) (V.alloc o)) := fun V => by rw [← ho]; exact conv_str 1 (one_row V x) hbt
  have HCW : Hid (∀ V, Below (w.alloc o).heap.size (w.alloc o) V → (convert 22 9 (.slice (some ⟨w.heap.size, 0, none⟩) 1 1)).run Tryz.prog V = .ok (.string (strOf [x])) V) := fun V hV => by rw [← ho] at hV; exact conv_str 1 ((one_row w x).below hV) hbt
  have HBA : Hid (Below w.heap.size w (w.alloc o)) := (Below.refl _ _).alloc (Nat.le_refl _) _
  rw [ho] at hc0
  clear HB0 hbt
  have hwq : IntKind.i64.wrap (q : Int) = (q : Int) := by simp [IntKind.wrap, IntKind.signed, IntKind.bits]; omega
  have hwx : IntKind.i64.wrap x = x := by simp [IntKind.wrap, IntKind.signed, IntKind.bits]; omega
  have hwu : IntKind.u8.wrap x = x := by simp [IntKind.wrap, IntKind.signed, IntKind.bits]; omega
  have hwm : x % 256 = x := by omega
  go_region_held (fun _ => True) (trivial) (first
    | (go_at_call 5; refine (HC.out _).mono ?_; rintro e w2 ⟨rfl, hb2⟩; first
        | (have hA : Below (w.alloc o).drew.heap.size (w.alloc o).drew w2 := (by with_reducible exact hb2); have HB2 : Hid (Below w.heap.size w w2) := HBA.out.drew.trans (hA.mono HBA.out.size); have hcB := HCW.out w2 (((Below.refl (w.alloc o).heap.size (w.alloc o)).drew).trans hA); clear hb2 hA)
        | (have hA : Below w.drew.heap.size w.drew w2 := (by with_reducible exact hb2); have HB2 : Hid (Below w.heap.size w w2) := ((Below.refl _ w).drew).trans hA; have hcA := HCV.out w2; clear hb2 hA)))
  all_goals
    go_wp2
    go_ret
    exact ⟨rfl, by first | exact HB2.out | exact HB2.out.alloc HB2.out.size _⟩
end Go.Proofs.YtonpdbajoidigaaGreatDoor

/-
  FnSpace: the law's calls and answers.
-/
namespace Go.Proofs.YtonpdbajoidigaaGreatDoor
open Go.RowKit
set_option linter.unusedSimpArgs false
set_option linter.unusedVariables false

theorem lwDec_any (v : Nat) (w : World) (hv : v < 100) : Calls Tryz.prog 5 #[.int .i64 (v : Int)] w fun e w' => e = .returned (.string (decN v)) ∧ Below w.heap.size w w' := by
  unfold decN
  by_cases h : v < 10
  · rw [if_pos h]; exact lwDec_small v w h
  · rw [if_neg h]; exact lwDec_big v w (by omega) hv
def fnm (i : Nat) : ByteArray := ⟨#[102]⟩ ++ decN i
def gnm : ByteArray := ⟨#[103]⟩
theorem fnm_ok : ∀ i, i < 100 → nameB (fnm i) = true := of_decide_eq_true (by kernel_rfl)
theorem gnm_ok : nameB gnm = true := by kernel_rfl
theorem fnm_ne : ∀ i, i < 100 → fnm i ≠ gnm := of_decide_eq_true (by kernel_rfl)
def numF (s : ByteArray) : Nat := s.data.toList.foldl (fun a x => a * 10 + (x.toNat - 48)) 0
theorem fnm_num : ∀ i, i < 100 → numF (fnm i) = (if i < 10 then 540 + i else 5400 + i) := of_decide_eq_true (by kernel_rfl)
theorem fnm_inj (i j : Nat) (hi : i < 100) (hj : j < 100) (h : fnm i = fnm j) : i = j := by
  have h1 := fnm_num i hi
  have h2 := fnm_num j hj
  rw [h, h2] at h1
  by_cases a : i < 10
  · by_cases b : j < 10
    · rw [if_pos a, if_pos b] at h1; omega
    · rw [if_pos a, if_neg b] at h1; omega
  · by_cases b : j < 10
    · rw [if_neg a, if_pos b] at h1; omega
    · rw [if_neg a, if_neg b] at h1; omega
def hex16 : ByteArray := ⟨#[48, 49, 50, 51, 52, 53, 54, 55, 56, 57, 97, 98, 99, 100, 101, 102]⟩
def dtR : Nat → ByteArray
  | 0 => ⟨#[]⟩
  | k + 1 => dtR k ++ hex16
theorem dtR_size : ∀ k, (dtR k).size = 16 * k
  | 0 => rfl
  | k + 1 => by rw [dtR, ByteArray.size_append, dtR_size k]; show 16 * k + 16 = _; omega
/-- The law's plan. -/
def spP (f m : Nat) : Pl := ⟨f, m, fnm, gnm, dtR (4 * m)⟩
theorem spP_ok {S f m : Nat} {b : Int} (hm : m ≤ 22) (hf : (f : Int) * (m + 1) ≤ S * b - 2 * b) (hf' : S * b - 2 * b < (f : Int) * (m + 1) + (m + 1)) (h9 : f < 99) (K : Cx) (hS : K.S = S) (hb : K.b = b) : (spP f m).Ok K := by
  subst hS; subst hb
  exact ⟨hm, by show (dtR (4 * m)).size = 64 * m; rw [dtR_size]; omega, hf, hf', fun i hi => fnm_ok i (by have : i ≤ f := hi; omega), fun i j hi hj h => fnm_inj i j (by have : i ≤ f := hi; omega) (by have : j ≤ f := hj; omega) h, gnm_ok, fun i hi => fnm_ne i (by have : i ≤ f := hi; omega)⟩
def callL (cs : Nat → Nat × ByteArray × ByteArray) (k : Nat) : List Value := (List.range k).flatMap fun j => [.int .i64 ((cs j).1 : Int), .string (cs j).2.1, .string (cs j).2.2, .int .i64 0]
theorem callL_succ (cs : Nat → Nat × ByteArray × ByteArray) (k : Nat) : callL cs (k + 1) = callL cs k ++ [.int .i64 ((cs k).1 : Int), .string (cs k).2.1, .string (cs k).2.2, .int .i64 0] := by
  unfold callL
  rw [List.range_succ, List.flatMap_append]
  simp
theorem callL_len (cs : Nat → Nat × ByteArray × ByteArray) : ∀ k, (callL cs k).length = 4 * k
  | 0 => rfl
  | k + 1 => by rw [callL_succ, List.length_append, callL_len cs k]; rfl
theorem callL_at (cs : Nat → Nat × ByteArray × ByteArray) (k j i : Nat) (hj : j < k) (hi : i < 4) : (callL cs k)[j * 4 + i]? = [Value.int .i64 ((cs j).1 : Int), .string (cs j).2.1, .string (cs j).2.2, .int .i64 0][i]? := by
  induction k with
  | zero => omega
  | succ k ih =>
    rw [callL_succ]
    by_cases h : j < k
    · rw [List.getElem?_append_left (by rw [callL_len]; omega)]
      exact ih h
    · obtain rfl : j = k := by omega
      rw [List.getElem?_append_right (by rw [callL_len]; omega), callL_len, show j * 4 + i - 4 * j = i by omega]
theorem call_cells {w : World} {B n c g : Nat} {cs : Nat → Nat × ByteArray × ByteArray} (h : w.ownsRow B 29 4 (.slice (some ⟨g, 0, none⟩) n c) n (callL cs n)) : (∃ cur, w.heap[g]? = some (.cells cur 29 (0, 0))) ∧ ∀ j, j < n → w.cell? ⟨g, j * 4, none⟩ = some (.int .i64 ((cs j).1 : Int)) ∧ w.cell? ⟨g, j * 4 + 1, none⟩ = some (.string (cs j).2.1) ∧ w.cell? ⟨g, j * 4 + 2, none⟩ = some (.string (cs j).2.2) ∧ w.cell? ⟨g, j * 4 + 3, none⟩ = some (.int .i64 0) := by
  rcases h.2 with ⟨e, _⟩ | ⟨g', cap, cur, e, hB, hg, h1, h2, h3, h4⟩
  · cases e
  injection e with e1 e2 e3
  injection e1 with e1
  injection e1 with e1
  subst e1
  refine ⟨⟨cur, hg⟩, fun j hj => ?_⟩
  have hc : ∀ i, i < 4 → w.cell? ⟨g, j * 4 + i, none⟩ = [Value.int .i64 ((cs j).1 : Int), .string (cs j).2.1, .string (cs j).2.2, .int .i64 0][i]? := fun i hi => by
    rw [← callL_at cs n j i hj hi, ← h4, List.getElem?_take, if_pos (by omega), World.cell?, hg]
    simp
  exact ⟨hc 0 (by omega), hc 1 (by omega), hc 2 (by omega), hc 3 (by omega)⟩
theorem ansL_len (an : Nat → Int × ByteArray) : ∀ k, (ansL an k).length = 9 * k
  | 0 => rfl
  | k + 1 => by rw [ansL_succ, List.length_append, ansL_len an k, ansV_len]; omega
theorem ansL_at (an : Nat → Int × ByteArray) (k j i : Nat) (hj : j < k) (hi : i < 9) : (ansL an k)[j * 9 + i]? = (ansV (an j).1 (an j).2).toList[i]? := by
  induction k with
  | zero => omega
  | succ k ih =>
    rw [ansL_succ]
    by_cases h : j < k
    · rw [List.getElem?_append_left (by rw [ansL_len]; omega)]
      exact ih h
    · obtain rfl : j = k := by omega
      rw [List.getElem?_append_right (by rw [ansL_len]; omega), ansL_len, show j * 9 + i - 9 * j = i by omega]
theorem ans_cells {w : World} {B n : Nat} {v : Value} {an : Nat → Int × ByteArray} (h : w.ownsRow B 42 9 v n (ansL an n)) (hn : 0 < n) : ∃ g c, v = .slice (some ⟨g, 0, none⟩) n c ∧ (∃ cur, w.heap[g]? = some (.cells cur 42 (0, 0))) ∧ ∀ j, j < n → w.cell? ⟨g, j * 9, none⟩ = some (.int .i64 (an j).1) ∧ w.cell? ⟨g, j * 9 + 1, none⟩ = some (.string (an j).2) := by
  rcases h.2 with ⟨_, e⟩ | ⟨g, cap, cur, e, hB, hg, h1, h2, h3, h4⟩
  · omega
  refine ⟨g, cap, e, ⟨cur, hg⟩, fun j hj => ?_⟩
  have hc : ∀ i, i < 9 → w.cell? ⟨g, j * 9 + i, none⟩ = (ansV (an j).1 (an j).2).toList[i]? := fun i hi => by
    rw [← ansL_at an n j i hj hi, ← h4, List.getElem?_take, if_pos (by omega), World.cell?, hg]
    simp
  exact ⟨hc 0 (by omega), hc 1 (by omega)⟩
end Go.Proofs.YtonpdbajoidigaaGreatDoor

/-
  FnSpace: a formatted disk's bytes, with their room.
-/
namespace Go.Proofs.YtonpdbajoidigaaGreatDoor
open Go.RowKit
set_option linter.unusedSimpArgs false
set_option linter.unusedVariables false

set_option maxHeartbeats 4000000 in
set_option maxRecDepth 100000 in
theorem implFmt_cap (s b : Int) (T N : Nat) (w : World) (hv : vG s b = true) (hT : nblk (2 * (s * b)) = (T : Int)) (hN : logN s b + s * b = (N : Int)) :
    Calls Tryz.prog 7 #[.agg #[.int .i64 s, .int .i64 b]] w fun e w' => ∃ a, e = .returned (.agg #[.slice a (N * 64) (N * 64), .slice none 0 0]) ∧ Row .u8 (fun g => w.heap.size ≤ g ∧ g < w'.heap.size) w' a (N * 64) (padL (List.replicate ((1 + T) * 64) 0 ++ hdrL 1 s b) (N * 64)) ∧ Below w.heap.size w w' := by
  obtain ⟨v1, v2, v3⟩ := fmt_bounds hv hT hN
  have hL := layout_impl s b
  rw [layA_nat hv hT hN] at hL
  have hE := fun v => headerBlock_any 1 s b v (hdr_ok hv)
  have hX : (u8s (hdrL 1 s b)).toArray.size = 64 := by rw [List.size_toArray, u8s_len, hdrL_len]
  have h1X := u8_all (hdrL 1 s b)
  have HL : Hid ((hdrL 1 s b).length = 64) := hdrL_len 1 s b
  clear hT hN
  generalize hdrL 1 s b = H at *
  generalize s * b = P at *
  generalize logN s b = L at *
  go_enter Tryz.func7, Tryz.ntmps7
  go_wp2_with fail
  refine (validGeometry_any s b _).mono ?_
  rintro e w1 ⟨rfl, hb1⟩
  rw [hv]
  obtain ⟨k0, k1, hB1⟩ := two_kept hb1
  obtain ⟨⟨c0, c1⟩, _, _⟩ := cells2g k0
  clear hb1 hv
  go_wp2_with fail
  refine (hL _).mono ?_
  rintro e w2 ⟨rfl, hb2⟩
  have z0 := (Array.getElem?_eq_some_iff.1 k0).1
  have z1 := (Array.getElem?_eq_some_iff.1 k1).1
  have j0 := (hb2.block w.heap.size z0).trans k0
  have j1 := (hb2.block (w.heap.size + 1) z1).trans k1
  have hB2 := hB1.trans (hb2.mono hB1.size)
  have y0 := (Array.getElem?_eq_some_iff.1 j0).1
  have y1 := (Array.getElem?_eq_some_iff.1 j1).1
  clear hb2 hL k0 k1 c0 c1 hB1 z0 z1
  go_wp2_with fail
  refine (newDisk_block N _ (by omega) (by omega)).mono ?_
  rintro e w3 ⟨rfl, g3, hb3⟩
  have es : ∀ o, (w2.alloc o).heap.size = w2.heap.size + 1 := fun _ => by simp
  rw [es] at g3 ⊢
  have hb3' : Below w2.heap.size w2 w3 := ((Below.refl _ _).alloc (Nat.le_refl _) _).trans (hb3.mono (by simp))
  have p3 := (hb3.block w2.heap.size (by simp)).trans (heap_alloc_new w2 _)
  have j3 := (hb3'.block w.heap.size y0).trans j0
  have r3 := (hb3'.block (w.heap.size + 1) y1).trans j1
  have hB3 := hB2.trans (hb3'.mono hB2.size)
  have s3 := (Array.getElem?_eq_some_iff.1 g3).1
  have HG : Hid (w3.heap[w2.heap.size + 1 + 1]? = some (.cells (u8s (List.replicate (N * 64) 0)).toArray 5 (0, 0))) := g3
  clear hb3 hb3' j0 j1 hB2 es g3
  obtain ⟨⟨c0, c1⟩, _, _⟩ := cells2g j3
  have lt0 : w.heap.size < w3.heap.size := by omega
  go_wp2_with fail
  refine (hE _).mono ?_
  rintro e w4 ⟨rfl, hb4⟩
  have hb4' : Below w3.heap.size w3 w4 := ((Below.refl _ _).alloc (Nat.le_refl _) _).trans (hb4.mono (by simp))
  have d4 := (hb4.block w3.heap.size (by simp)).trans (heap_alloc_new w3 _)
  have p4 := (hb4'.block w2.heap.size (by omega)).trans p3
  have r4 := (hb4'.block (w.heap.size + 1) (by omega)).trans r3
  have HG4 : Hid (w4.heap[w2.heap.size + 1 + 1]? = some (.cells (u8s (List.replicate (N * 64) 0)).toArray 5 (0, 0))) := (hb4'.block _ s3).trans HG.out
  have hB4 := hB3.trans (hb4'.mono hB3.size)
  have s4 := (Array.getElem?_eq_some_iff.1 d4).1
  clear hb4 hb4' p3 r3 hB3 HG c0 c1 j3 hE
  generalize hXe : (u8s H).toArray = X at *
  have HXe : Hid ((u8s H).toArray = X) := hXe
  clear hXe
  go_wp2_with (refine wpList_store_row rfl 74 _ _ rfl w4.heap.size X rfl rfl 74 _ (heap_alloc_new w4 _) (by rw [hX]; exact info74s) (by rw [hX]; rfl) h1X ?_)
  obtain ⟨W5, hW5⟩ : ∃ W5, W5 = World.setRow (w4.alloc (.cells z64.toArray 74)) w4.heap.size X := ⟨_, rfl⟩
  obtain ⟨x5, hb5, s5⟩ := after_row w4 z64.toArray X 74
  rw [← hW5] at x5 hb5 s5
  rw [z64_lit] at hW5
  rw [← hW5]
  have d5 := (hb5.block _ s4).trans d4
  have p5 := (hb5.block w2.heap.size (by omega)).trans p4
  have r5 := (hb5.block (w.heap.size + 1) (by omega)).trans r4
  have HG5 : Hid (W5.heap[w2.heap.size + 1 + 1]? = some (.cells (u8s (List.replicate (N * 64) 0)).toArray 5 (0, 0))) := (hb5.block _ (by omega)).trans HG4.out
  have hB5 := hB4.trans (hb5.mono hB4.size)
  clear hW5 hb5 HG4 d4 p4 r4 hB4
  obtain ⟨⟨c0, c1⟩, _, _⟩ := cells2g d5
  obtain ⟨⟨e0, e1, e2, e3, e4⟩, _, _, _, _, _⟩ := cells5 p5
  obtain ⟨M, hM⟩ : ∃ M, (1 + T) * 64 = M := ⟨_, rfl⟩
  have HM : Hid ((1 + T) * 64 = M) := hM
  have hw : IntKind.i64.wrap ((1 + (T : Int)) * 64) = (M : Int) := by rw [IntKind.wrap_i64]; omega
  have m1 : (M : Int) ≤ (N : Int) * 64 := by omega
  have m2 : ¬ N * 64 = M := by omega
  have m3 : M + 64 ≤ N * 64 := by omega
  have m4 : (0 : Int) ≤ (M : Int) := by omega
  clear hM
  go_region_law (first
    | (go_simp; go_at_call 16; refine (regionStart_any _ _ _ _ _ W5.drew (by omega) (by omega)).mono ?_; rintro e w6 ⟨rfl, hb6⟩; have d6 := (hb6.block _ (show w3.heap.size < W5.heap.size by omega)).trans d5; have x6 := (hb6.block _ (show w4.heap.size < W5.heap.size by omega)).trans x5; have r6 := (hb6.block _ (show w.heap.size + 1 < W5.heap.size by omega)).trans r5; have HG6 : Hid (w6.heap[w2.heap.size + 1 + 1]? = some (.cells (u8s (List.replicate (N * 64) 0)).toArray 5 (0, 0))) := (hb6.block _ (show w2.heap.size + 1 + 1 < W5.heap.size by omega)).trans HG5.out; have hB6 : Below w.heap.size w w6 := hB5.drew.trans (hb6.mono hB5.size); obtain ⟨⟨c06, c16⟩, _, _⟩ := cells2g d6)
    | (refine step_copy_kept rfl (.tmp 26) (.tmp 27) 22 22 rfl 5 Tryz.underlying22 info5s (N * 64 - M) (N * 64 - M) 64 64 (w2.heap.size + 1 + 1) M ⟨w4.heap.size, 0, none⟩ rfl rfl (u8s (List.replicate (N * 64) 0)) 5 HG6.out (u8s H) (by rw [u8s_len, HL.out]; exact (Nat.min_eq_left (by omega)).symm) (src_cells (t := 74) (by rw [HXe.out]; exact x6)) (by rw [u8s_len, u8s_len, HL.out]; simp; omega) (many_u8 _) ?_; intro w7 hg7 hk7))
  all_goals
    have hg8 := hg7.out
    rw [← HM.out, fmt_splice T N H HL.out (by have := HM.out; omega)] at hg8
    have HG8 : Hid (w7.heap[w2.heap.size + 1 + 1]? = some (.cells (u8s (padL (List.replicate ((1 + T) * 64) 0 ++ H) (N * 64))).toArray 5 (0, 0))) := hg8
    have d7 := (hk7.block w3.heap.size (by have := (Array.getElem?_eq_some_iff.1 d6).1; omega) (by omega)).trans d6
    have r7 := (hk7.block (w.heap.size + 1) (by have := (Array.getElem?_eq_some_iff.1 r6).1; omega) (by omega)).trans r6
    have hB7 : Below w.heap.size w w7 := hB6.trans (hk7.below hB6.size (fun g hg => by omega))
    have s7 := (Array.getElem?_eq_some_iff.1 hg8).1
    obtain ⟨⟨q0, q1⟩, _, _⟩ := cells2g d7
    obtain ⟨⟨x0, x1⟩, f0, f1⟩ := cells2g r7
    have k8 := fun v0 v1 => (Kept.setCell w7 ⟨w.heap.size + 1, 0, none⟩ v0 (fun g => g = w.heap.size + 1) rfl).trans (Kept.setCell _ ⟨w.heap.size + 1, 1, none⟩ v1 (fun g => g = w.heap.size + 1) rfl)
    have hB8 := fun v0 v1 => (hB7.setCell (p := ⟨w.heap.size + 1, 0, none⟩) (Nat.le_succ _) v0).setCell (p := ⟨w.heap.size + 1, 1, none⟩) (Nat.le_succ _) v1
    have hl9 : (padL (List.replicate ((1 + T) * 64) 0 ++ H) (N * 64)).length = N * 64 := padL_len _ _ (by rw [List.length_append, List.length_replicate, HL.out]; omega)
    have row9 := fun v0 v1 => row_of_block (G := fun g => w.heap.size ≤ g ∧ g < ((w7.setCell ⟨w.heap.size + 1, 0, none⟩ v0).setCell ⟨w.heap.size + 1, 1, none⟩ v1).heap.size) (((k8 v0 v1).block (w2.heap.size + 1 + 1) s7 (by omega)).trans HG8.out) ⟨by omega, by simp [World.setCell]; omega⟩
    rw [hl9] at row9
    have HR : Hid (∀ v0 v1, Row .u8 (fun g => w.heap.size ≤ g ∧ g < ((w7.setCell ⟨w.heap.size + 1, 0, none⟩ v0).setCell ⟨w.heap.size + 1, 1, none⟩ v1).heap.size) ((w7.setCell ⟨w.heap.size + 1, 0, none⟩ v0).setCell ⟨w.heap.size + 1, 1, none⟩ v1) (some ⟨w2.heap.size + 1 + 1, 0, none⟩) (N * 64) (padL (List.replicate ((1 + T) * 64) 0 ++ H) (N * 64))) := row9
    clear hg7 hg8 hk7 k8 row9 hl9 HG8 hw m1 m2 m3 m4
    go_wp2
    refine bodyPost_ret (v := .agg #[.slice (some ⟨w2.heap.size + 1 + 1, 0, none⟩) (N * 64) (N * 64), .slice none 0 0]) (by simp [results, Tryz.results7, go_sem, x0, x1]) rfl ?_
    exact ⟨_, rfl, HR.out _ _, hB8 _ _⟩
end Go.Proofs.YtonpdbajoidigaaGreatDoor

/-
  FnSpace: the law's run.
-/
namespace Go.Proofs.YtonpdbajoidigaaGreatDoor
open Go.RowKit
set_option linter.unusedSimpArgs false
set_option linter.unusedVariables false

theorem wrap_small {x : Int} (h0 : 0 ≤ x) (h1 : x ≤ 1000000000) : IntKind.i64.wrap x = x := by simp [IntKind.wrap, IntKind.signed, IntKind.bits]; omega
structure Geo (S : Nat) (b : Int) (n p r f : Nat) : Prop where
  hv : vG (S : Int) b = true
  hp : (S : Int) * b = (p : Int)
  hr : (p : Int) - 2 * b = (r : Int)
  hf : (r : Int).tdiv (n : Int) = (f : Int)
  hp1 : p ≤ 1024
  hb : 2 ≤ b ∧ b ≤ 16
  hn : 1 ≤ n ∧ n ≤ 23
  hr1 : r ≤ 1024
  lo : (f : Int) * n ≤ r
  hi : (r : Int) < (f : Int) * n + n
  small : f < 99
theorem geo_of {S : Nat} {b : Int} {n : Nat} (hv : vG (S : Int) b = true) (hn : 1 ≤ n) (hn2 : n ≤ 23) (hs : (S : Int) * b ≤ 54 ∨ 16 ≤ n) : ∃ p r f : Nat, Geo S b n p r f := by
  have hg := vG_yes hv
  have hm := vG_mul hv
  have h2 : (2 : Int) * b ≤ (S : Int) * b := Int.mul_le_mul_of_nonneg_right (by omega) (by omega)
  obtain ⟨p, hp⟩ : ∃ p : Nat, (S : Int) * b = (p : Int) := ⟨((S : Int) * b).toNat, by omega⟩
  obtain ⟨r, hr⟩ : ∃ r : Nat, (p : Int) - 2 * b = (r : Int) := ⟨((p : Int) - 2 * b).toNat, by omega⟩
  have e : (r : Int).tdiv (n : Int) = ((r / n : Nat) : Int) := by rw [Int.tdiv_eq_ediv_of_nonneg (by omega)]; simp
  have h3 := Nat.div_add_mod r n
  have h4 := Nat.mod_lt r (show n > 0 by omega)
  rw [Nat.mul_comm] at h3
  have h5 : ((r / n * n : Nat) : Int) = ((r / n : Nat) : Int) * (n : Int) := by simp
  refine ⟨p, r, r / n, hv, hp, hr, e, by omega, by omega, ⟨hn, hn2⟩, by omega, by rw [← h5]; omega, by rw [← h5]; omega, ?_⟩
  rcases hs with hs | hs
  · have : r / n ≤ r := Nat.div_le_self _ _
    omega
  · have : r / n * 16 ≤ r / n * n := Nat.mul_le_mul_left _ hs
    omega
theorem run_law {S : Nat} {b : Int} {n p r f m T N B KK gd cd : Nat} (hG : Geo S b n p r f) (hm : (n : Int) - 1 = (m : Int)) (hKK : 2 * f + 6 = KK) (hT : nblk (2 * ((S : Int) * b)) = (T : Int)) (hN : logN S b + (S : Int) * b = (N : Int)) (g off : Nat) (V : World) (hr : IRow .u8 V (some ⟨g, off, none⟩) (N * 64) (fmtX S b T N)) (own : V.ownsRow B 29 4 (.slice (some ⟨gd, 0, none⟩) KK cd) KK (callL (spP f m).cs KK)) (hR : RulesAt V) (hV0 : 0 < V.heap.size) :
    Calls Tryz.prog 6 #[.agg #[.slice (some ⟨g, off, none⟩) (N * 64) (N * 64), .slice none 0 0], .agg #[.int .i64 (S : Int), .int .i64 b], .slice (some ⟨gd, 0, none⟩) KK cd, .int .i64 (-1)] V fun e w' => ∃ ga c o d1 l1 c1 d2 l2 c2, e = .returned (.agg #[.int .i64 0, .bool false, .slice (some ⟨ga, 0, none⟩) KK c, .int .i64 o, .slice d1 l1 c1, .slice d2 l2 c2]) ∧ (∃ cur, w'.heap[ga]? = some (.cells cur 42 (0, 0))) ∧ (∀ j, j < KK → w'.cell? ⟨ga, j * 9, none⟩ = some (.int .i64 ((spP f m).an j).1) ∧ w'.cell? ⟨ga, j * 9 + 1, none⟩ = some (.string ((spP f m).an j).2)) ∧ Below V.heap.size V w' := by
  subst hKK
  obtain ⟨hrow, hcell⟩ := call_cells own
  have hsm := hG.small
  have hn := hG.hn
  have lo := hG.lo
  have hi := hG.hi
  rw [show (n : Int) = (m : Int) + 1 by omega] at lo hi
  rw [← hG.hr, ← hG.hp] at lo hi
  refine (run_fmt g off N (N * 64) gd cd S b T p (spP f m) V hr (Nat.le_refl _) hG.hv hG.hp.symm hT hN hrow hcell (by show 2 * f + 6 ≤ 1000; omega) (fun K h1 h2 => spP_ok (by omega) lo hi hsm K h1 h2) hR hV0).mono ?_
  rintro e w' ⟨v, o, d1, l1, c1, d2, l2, c2, rfl, hown, hb⟩
  obtain ⟨ga, c, rfl, ht, hc⟩ := ans_cells hown (by show 0 < 2 * f + 6; omega)
  exact ⟨ga, c, o, d1, l1, c1, d2, l2, c2, rfl, ht, hc, hb⟩
theorem set_result {wd X VS : World} {R ga KK : Nat} {an : Nat → Int × ByteArray} {t : TypeId} {a0 a1 a2 a3 a4 a5 v0 v1 v2 v3 v4 v5 : Value} (k : X.heap[R]? = some (.cells #[a0, a1, a2, a3, a4, a5] t (0, 0))) (htt : t ≠ 42) (hb : Below wd.heap.size wd X) (hR : wd.heap.size ≤ R) (ht : ∃ cur, X.heap[ga]? = some (.cells cur 42 (0, 0))) (hans : ∀ j, j < KK → X.cell? ⟨ga, j * 9, none⟩ = some (.int .i64 (an j).1) ∧ X.cell? ⟨ga, j * 9 + 1, none⟩ = some (.string (an j).2))
    (hVS : ((((((X.setCell ⟨R, 0, none⟩ v0).setCell ⟨R, 1, none⟩ v1).setCell ⟨R, 2, none⟩ v2).setCell ⟨R, 3, none⟩ v3).setCell ⟨R, 4, none⟩ v4).setCell ⟨R, 5, none⟩ v5) = VS) :
    VS.heap[R]? = some (.cells #[v0, v1, v2, v3, v4, v5] t (0, 0)) ∧ Below wd.heap.size wd VS ∧ ga < VS.heap.size ∧ ∀ j, j < KK → VS.cell? ⟨ga, j * 9, none⟩ = some (.int .i64 (an j).1) ∧ VS.cell? ⟨ga, j * 9 + 1, none⟩ = some (.string (an j).2) := by
  have hk : Kept (fun g => g = R) X VS := by
    rw [← hVS]
    exact (((((Kept.setCell X ⟨R, 0, none⟩ _ (fun g => g = R) rfl).trans (Kept.setCell _ ⟨R, 1, none⟩ _ (fun g => g = R) rfl)).trans (Kept.setCell _ ⟨R, 2, none⟩ _ (fun g => g = R) rfl)).trans (Kept.setCell _ ⟨R, 3, none⟩ _ (fun g => g = R) rfl)).trans (Kept.setCell _ ⟨R, 4, none⟩ _ (fun g => g = R) rfl)).trans (Kept.setCell _ ⟨R, 5, none⟩ _ (fun g => g = R) rfl)
  obtain ⟨cur, hc⟩ := ht
  have lga := (Array.getElem?_eq_some_iff.1 hc).1
  have hne : ga ≠ R := fun e => by
    rw [e, k] at hc
    injection hc with hc
    injection hc with _ hc
    exact htt hc
  have hbl := hk.block ga lga hne
  refine ⟨by rw [← hVS]; exact six_set k _ _ _ _ _ _, hb.trans (hk.below hb.size (fun g hg => by omega)), by have := hk.size; omega, fun j hj => ?_⟩
  have e : ∀ i, VS.cell? ⟨ga, i, none⟩ = X.cell? ⟨ga, i, none⟩ := fun i => by rw [World.cell?, World.cell?, hbl]
  rw [e, e]
  exact hans j hj
theorem new_result {wd X VS : World} {ga KK : Nat} {an : Nat → Int × ByteArray} {t : TypeId} {v0 v1 v2 v3 v4 v5 : Value} (hb : Below wd.heap.size wd X) (ht : ∃ cur, X.heap[ga]? = some (.cells cur 42 (0, 0))) (hans : ∀ j, j < KK → X.cell? ⟨ga, j * 9, none⟩ = some (.int .i64 (an j).1) ∧ X.cell? ⟨ga, j * 9 + 1, none⟩ = some (.string (an j).2))
    (hVS : X.alloc (.cells #[v0, v1, v2, v3, v4, v5] t) = VS) :
    VS.heap[X.heap.size]? = some (.cells #[v0, v1, v2, v3, v4, v5] t (0, 0)) ∧ Below wd.heap.size wd VS ∧ ga < VS.heap.size ∧ ∀ j, j < KK → VS.cell? ⟨ga, j * 9, none⟩ = some (.int .i64 (an j).1) ∧ VS.cell? ⟨ga, j * 9 + 1, none⟩ = some (.string (an j).2) := by
  obtain ⟨cur, hc⟩ := ht
  have lga := (Array.getElem?_eq_some_iff.1 hc).1
  have hbX : Below X.heap.size X VS := by rw [← hVS]; exact (Below.refl _ _).alloc (Nat.le_refl _) _
  exact ⟨by rw [← hVS]; exact heap_alloc_new X _, hb.trans (hbX.mono hb.size), by have := hbX.size; omega, fun j hj => ⟨(hbX.cell lga).trans (hans j hj).1, (hbX.cell lga).trans (hans j hj).2⟩⟩
end Go.Proofs.YtonpdbajoidigaaGreatDoor
