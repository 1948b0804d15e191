/-
  Rd, Dh, Di, Ds, Dt, Dl.
-/
import Derived.Test.YtonpdbajoidigaaGreatDoorGj
import Derived.Defers
import Derived.Recover
import Derived.Laws.Pointers
import Derived.Deep.MidRow
import Derived.Stop.BytesEq
import Derived.Laws.IdiomStrings
import Derived.Deep.RegionWith
import Derived.Deep.CutRange
/-
  The reader of bytes.
-/
namespace Go.Proofs.YtonpdbajoidigaaGreatDoor
open Go.RowKit
set_option linter.unusedSimpArgs false
set_option linter.unusedVariables false

def outV : List PanicEntry := [{ v := Value.iface 200 (Value.agg #[]), recovered := false }]

theorem take_short (r : Nat) (a : Option Addr) (n c : Nat) (k : Nat) (w : World) (h0 : w.cell? ⟨r, 0, none⟩ = some (.slice a n c)) (hk : n < k) :
    Calls Tryz.prog 184 #[.pointer (some ⟨r, 0, none⟩), .int .i64 k] w fun e w' => e = .panicked outV ∧ w' = w := by
  go_enter Tryz.func184, Tryz.ntmps184
  go_wp2
  exact ⟨rfl, rfl, rfl⟩

theorem irow_drop {k : IntKind} {w : World} {g off n : Nat} {xs : List Int} (j : Nat) (hj : j < n) (h : IRow k w (some ⟨g, off, none⟩) n xs) : IRow k w (some ⟨g, off + j, none⟩) (n - j) (xs.drop j) := by
  obtain ⟨h1, h2⟩ := h
  rcases h2 with h2 | ⟨g', off', e, hc⟩
  · omega
  · injection e with e
    injection e with e1 e2 e3
    subst e1; subst e2
    refine ⟨by simp [h1], .inr ⟨g, off + j, rfl, fun i hi => ?_⟩⟩
    rw [Nat.add_assoc, hc (j + i) (by omega), List.getElem?_drop]

set_option maxHeartbeats 400000 in
theorem take_long (r : Nat) (a : Option Addr) (n c : Nat) (k : Nat) (xs : List Int) (w0 w : World) (ha : IRow .u8 w0 a n xs) (h0 : w.cell? ⟨r, 0, none⟩ = some (.slice a n c)) (hf : w.frozen? ⟨r, 0, none⟩ = false) (hk0 : 0 < k) (hk : k ≤ n) (hc : n ≤ c) (hm : c ≤ 9223372036854775807) :
    Calls Tryz.prog 184 #[.pointer (some ⟨r, 0, none⟩), .int .i64 k] w fun e w' => e = .returned (.slice a k c) ∧ ∃ a' c', w' = w.setCell ⟨r, 0, none⟩ (.slice a' (n - k) c') ∧ n - k ≤ c' ∧ c' ≤ c ∧ IRow .u8 w0 a' (n - k) (xs.drop k) := by
  rcases ha.2 with h1 | ⟨g, off, rfl, hcell⟩
  · omega
  have hd : k < n → IRow .u8 w0 (some ⟨g, off + k, none⟩) (n - k) (xs.drop k) := fun h => irow_drop k h ha
  have HL : Hid (xs.length = n) := ha.1
  clear ha hcell
  by_cases hck : c = k
  · have hnk : n = k := by omega
    subst hnk; subst hck
    go_enter Tryz.func184, Tryz.ntmps184
    go_wp2
    go_ret
    exact ⟨rfl, _, _, by rw [Nat.sub_self], by omega, by omega, ⟨by simp [HL.out], .inl (by omega)⟩⟩
  · go_enter Tryz.func184, Tryz.ntmps184
    go_wp2
    go_ret
    refine ⟨rfl, _, _, rfl, by omega, by omega, ?_⟩
    by_cases hlt : k < n
    · exact hd hlt
    · exact ⟨by simp [HL.out], .inl (by omega)⟩

/-- Big-endian. -/
def numI (l : List Int) : Int := l.foldl (fun v b => v * 256 + b) 0
theorem numI_succ (xs : List Int) (k : Nat) (h : k < xs.length) : numI (xs.take (k + 1)) = numI (xs.take k) * 256 + xs[k]?.getD 0 := by
  rw [List.take_succ_eq_append_getElem h]
  simp only [numI, List.foldl_append, List.foldl_cons, List.foldl_nil, List.getElem?_eq_getElem h, Option.getD_some]
theorem wrap_step (N x : Int) : wrap64 (wrap64 (wrap64 N * 256) + wrap64 x) = wrap64 (N * 256 + x) := by
  unfold wrap64; omega
theorem or_step (N x : Int) (h0 : 0 ≤ x) (h1 : x ≤ 255) : bits .or .i64 (wrap64 (wrap64 N * 256)) x = wrap64 (N * 256 + x) := by
  have e1 : (BitVec.ofInt 64 (wrap64 (wrap64 N * 256))).toNat = (wrap64 (wrap64 N * 256) % 18446744073709551616).toNat := by rw [BitVec.toNat_ofInt]; rfl
  have e2 : (BitVec.ofInt 64 x).toNat = x.toNat := by
    rw [BitVec.toNat_ofInt]
    show (x % 18446744073709551616).toNat = x.toNat
    omega
  show IntKind.i64.wrap ((BitVec.ofInt 64 (wrap64 (wrap64 N * 256)) ||| BitVec.ofInt 64 x).toNat : Int) = _
  rw [BitVec.toNat_or, e1, e2, IntKind.wrap_i64]
  have hA : (wrap64 (wrap64 N * 256) % 18446744073709551616).toNat = 2 ^ 8 * ((wrap64 (wrap64 N * 256) % 18446744073709551616).toNat / 256) := by unfold wrap64; omega
  rw [hA, ← Nat.two_pow_add_eq_or_of_lt (by omega : x.toNat < 2 ^ 8)]
  unfold wrap64; omega
theorem wrap_zero : wrap64 (numI []) = 0 := by show wrap64 0 = 0; unfold wrap64; omega

set_option maxHeartbeats 1000000 in
theorem number_long (r : Nat) (a : Option Addr) (n c : Nat) (k : Nat) (xs : List Int) (w0 w : World) (ha : IRow .u8 w0 a n xs) (hb : Below w0.heap.size w0 w) (hr : w0.heap.size ≤ r) (h0 : w.cell? ⟨r, 0, none⟩ = some (.slice a n c)) (hf : w.frozen? ⟨r, 0, none⟩ = false) (hk0 : 0 < k) (hk8 : k ≤ 8) (hk : k ≤ n) (hc : n ≤ c) (hm : c ≤ 9223372036854775807) (hby : ∀ i, i < n → 0 ≤ xs[i]?.getD 0 ∧ xs[i]?.getD 0 ≤ 255) :
    Calls Tryz.prog 160 #[.pointer (some ⟨r, 0, none⟩), .int .i64 k] w fun e w' => e = .returned (.int .i64 (wrap64 (numI (xs.take k)))) ∧ ∃ a' c', w'.cell? ⟨r, 0, none⟩ = some (.slice a' (n - k) c') ∧ w'.frozen? ⟨r, 0, none⟩ = false ∧ n - k ≤ c' ∧ c' ≤ c ∧ IRow .u8 w0 a' (n - k) (xs.drop k) ∧ Below w0.heap.size w0 w' ∧ w' = w.setCell ⟨r, 0, none⟩ (.slice a' (n - k) c') := by
  have HA : Hid (IRow .u8 w0 a n xs) := ha
  go_enter Tryz.func160, Tryz.ntmps160
  go_wp2_with fail
  refine (take_long r a n c k xs w0 _ ha h0 hf hk0 hk hc hm).mono ?_
  rintro e w1 ⟨rfl, a', c', rfl, q1, q2, q3⟩
  have hc1 : (w.setCell ⟨r, 0, none⟩ (.slice a' (n - k) c')).cell? ⟨r, 0, none⟩ = some (.slice a' (n - k) c') := World.cell?_setCell_same _ _ _ h0
  have hf1 : (w.setCell ⟨r, 0, none⟩ (.slice a' (n - k) c')).frozen? ⟨r, 0, none⟩ = false := (World.frozen?_setCell _ _ _ _).trans hf
  have hb1 : Below w0.heap.size w0 (w.setCell ⟨r, 0, none⟩ (.slice a' (n - k) c')) := hb.setCell hr _
  generalize hw1 : (w.setCell ⟨r, 0, none⟩ (.slice a' (n - k) c')) = w1 at *
  have HQ : Hid (w1.cell? ⟨r, 0, none⟩ = some (.slice a' (n - k) c') ∧ w1.frozen? ⟨r, 0, none⟩ = false ∧ IRow .u8 w0 a' (n - k) (xs.drop k) ∧ Below w0.heap.size w0 w1 ∧ w1 = w.setCell ⟨r, 0, none⟩ (.slice a' (n - k) c')) := ⟨hc1, hf1, q3, hb1, hw1.symm⟩
  clear h0 hf hb ha hc1 hf1 q3 hb1 hw1
  go_wp2
  go_loopw [5, 12] (fun v i wr => ∃ j : Nat, j ≤ k ∧ i = .int .i64 j ∧ v = .int .i64 (wrap64 (numI (xs.take j))) ∧ wr = w1) (fun _ i _ => k - (intOf i).toNat)
  case atStart => exact ⟨0, Nat.zero_le _, rfl, by rw [List.take_zero, wrap_zero], rfl⟩
  case round =>
    obtain ⟨j, hj, rfl, rfl, rfl⟩ := hrel
    by_cases hlt : j < k
    · rcases HA.out.2 with h0 | ⟨g, off, rfl, hc⟩
      · omega
      have c1 := hc j (by omega)
      rw [← HQ.out.2.2.2.1.cell (World.block_lt_of_cell? w0 _ c1)] at c1
      have HS : Hid (numI (xs.take (j + 1)) = numI (xs.take j) * 256 + xs[j]?.getD 0) := numI_succ xs j (by rw [HA.out.1]; omega)
      have HY := hby j (by omega)
      generalize xs[j]?.getD 0 = x at *
      clear hc
      go_wp2
      refine ⟨⟨j + 1, by omega, by go_num, by rw [HS.out, or_step _ _ HY.1 HY.2], trivial⟩, by simp [intOf]; omega⟩
    · have hkn : j = k := by omega
      subst hkn
      go_wp2
      go_ret
      exact ⟨rfl, a', c', HQ.out.1, HQ.out.2.1, q1, q2, HQ.out.2.2.1, HQ.out.2.2.2⟩

theorem number_short (r : Nat) (a : Option Addr) (n c : Nat) (k : Nat) (w : World) (h0 : w.cell? ⟨r, 0, none⟩ = some (.slice a n c)) (hk : n < k) :
    Calls Tryz.prog 160 #[.pointer (some ⟨r, 0, none⟩), .int .i64 k] w fun e w' => e = .panicked outV ∧ w' = w := by
  go_enter Tryz.func160, Tryz.ntmps160
  go_wp2_with fail
  refine (take_short r a n c k w h0 hk).mono ?_
  rintro e w1 ⟨rfl, rfl⟩
  exact ⟨rfl, rfl, rfl⟩

/-- The header's three numbers. -/
def hS (xs : List Int) : Int := wrap64 (numI (xs.take 8))
def hP (xs : List Int) : Int := wrap64 (numI ((xs.drop 8).take 2))
def hQ (xs : List Int) : Int := wrap64 (numI ((xs.drop 10).take 2))

theorem setCell_block {w : World} {r o b : Nat} {v : Value} (h : b ≠ r) : (w.setCell ⟨r, o, none⟩ v).heap[b]? = w.heap[b]? := by
  simp only [World.setCell, Array.getElem?_modify]
  rw [if_neg (by omega)]

theorem kept_new {G : Nat → Prop} {w w' : World} (h : Kept (fun g => G g ∨ w.heap.size ≤ g) w w') : Kept G w w' :=
  ⟨h.os, h.tape, h.output, h.size, fun j hj hg => h.block j hj (fun x => x.elim hg (by omega))⟩

set_option maxHeartbeats 1000000 in
theorem readHeader_long (r : Nat) (a : Option Addr) (n c : Nat) (xs : List Int) (w0 w : World) (ha : IRow .u8 w0 a n xs) (hb : Below w0.heap.size w0 w) (hr : w0.heap.size ≤ r) (h0 : w.cell? ⟨r, 0, none⟩ = some (.slice a n c)) (hf : w.frozen? ⟨r, 0, none⟩ = false) (hk : 12 ≤ n) (hc : n ≤ c) (hm : c ≤ 9223372036854775807) (hby : ∀ i, i < n → 0 ≤ xs[i]?.getD 0 ∧ xs[i]?.getD 0 ≤ 255) :
    Calls Tryz.prog 104 #[.pointer (some ⟨r, 0, none⟩)] w fun e w' => e = .returned (.agg #[.int .i64 (hS xs), .int .i64 (hP xs), .int .i64 (hQ xs)]) ∧ Kept (fun g => g = r) w w' := by
  have hrw : r < w.heap.size := World.block_lt_of_cell? w _ h0
  have hbA : ∀ o, Below w0.heap.size w0 (w.alloc o) := fun o => hb.alloc hb.size _
  have h0A : ∀ o, (w.alloc o).cell? ⟨r, 0, none⟩ = some (.slice a n c) := fun o => (World.cell?_alloc_old w o _ (by simp; omega)).trans h0
  have hfA : ∀ o, (w.alloc o).frozen? ⟨r, 0, none⟩ = false := fun o => (World.frozen?_alloc_old w o _ (by simp; omega)).trans hf
  have hs0 := hb.size
  go_enter Tryz.func104, Tryz.ntmps104
  go_wp2_with fail
  refine (number_long r a n c 8 xs w0 _ ha (hbA _) hr (h0A _) (hfA _) (by omega) (by omega) (by omega) hc hm hby).mono ?_
  rintro e w1 ⟨rfl, a1, c1, k1, f1, l1, m1, r1, b1, e1⟩
  have K1 : Kept (fun g => g = r ∨ w.heap.size ≤ g) w w1 := by rw [e1]; exact (Kept.of_below ((Below.refl _ _).alloc (Nat.le_refl _) _) _).trans (Kept.setCell _ _ _ _ (Or.inl rfl))
  have x1 : w1.heap[w.heap.size]? = some (.cells #[.int .i64 0, .int .i64 0, .int .i64 0] 77 (0, 0)) := by rw [e1, setCell_block (by omega)]; exact heap_alloc_new w _
  clear h0 hf hb hbA h0A hfA e1
  go_wp2_with fail
  refine (number_long r a1 (n - 8) c1 2 (xs.drop 8) w0 w1 r1 b1 hr k1 f1 (by omega) (by omega) (by omega) l1 (by omega) (fun i hi => by rw [List.getElem?_drop]; exact hby _ (by omega))).mono ?_
  rintro e w2 ⟨rfl, a2, c2, k2, f2, l2, m2, r2, b2, e2⟩
  have K2 : Kept (fun g => g = r ∨ w.heap.size ≤ g) w w2 := by rw [e2]; exact K1.trans (Kept.setCell _ _ _ _ (Or.inl rfl))
  have x2 : w2.heap[w.heap.size]? = some (.cells #[.int .i64 0, .int .i64 0, .int .i64 0] 77 (0, 0)) := by rw [e2, setCell_block (by omega)]; exact x1
  clear k1 f1 b1 x1 e2
  go_wp2_with fail
  refine (number_long r a2 (n - 8 - 2) c2 2 ((xs.drop 8).drop 2) w0 w2 r2 b2 hr k2 f2 (by omega) (by omega) (by omega) l2 (by omega) (fun i hi => by rw [List.getElem?_drop, List.getElem?_drop]; exact hby _ (by omega))).mono ?_
  rintro e w3 ⟨rfl, a3, c3, k3, f3, l3, m3, r3, b3, e3⟩
  have K3 : Kept (fun g => g = r ∨ w.heap.size ≤ g) w w3 := by rw [e3]; exact K2.trans (Kept.setCell _ _ _ _ (Or.inl rfl))
  have x3 : w3.heap[w.heap.size]? = some (.cells #[.int .i64 0, .int .i64 0, .int .i64 0] 77 (0, 0)) := by rw [e3, setCell_block (by omega)]; exact x2
  rw [List.drop_drop]
  obtain ⟨t0, t1, t2⟩ := three_cells x3
  have z0 : w3.frozen? ⟨w.heap.size, 0, none⟩ = false := by simp [World.frozen?, x3]
  have z1 : w3.frozen? ⟨w.heap.size, 1, none⟩ = false := by simp [World.frozen?, x3]
  have z2 : w3.frozen? ⟨w.heap.size, 2, none⟩ = false := by simp [World.frozen?, x3]
  clear k2 f2 b2 x2 e3 r1 r2 r3
  go_wp2
  refine bodyPost_ret (v := .agg #[.int .i64 (hS xs), .int .i64 (hP xs), .int .i64 (hQ xs)]) (by simp [results, Tryz.results104, go_sem, t0, t1, t2, hS, hP, hQ]) rfl ?_
  refine ⟨rfl, kept_new ?_⟩
  exact ((K3.trans (Kept.setCell _ _ _ _ (Or.inr (Nat.le_refl _)))).trans (Kept.setCell _ _ _ _ (Or.inr (Nat.le_refl _)))).trans (Kept.setCell _ _ _ _ (Or.inr (Nat.le_refl _)))

set_option maxHeartbeats 1000000 in
theorem readHeader_short (r : Nat) (a : Option Addr) (n c : Nat) (xs : List Int) (w0 w : World) (ha : IRow .u8 w0 a n xs) (hb : Below w0.heap.size w0 w) (hr : w0.heap.size ≤ r) (h0 : w.cell? ⟨r, 0, none⟩ = some (.slice a n c)) (hf : w.frozen? ⟨r, 0, none⟩ = false) (hk : n < 12) (hc : n ≤ c) (hm : c ≤ 9223372036854775807) (hby : ∀ i, i < n → 0 ≤ xs[i]?.getD 0 ∧ xs[i]?.getD 0 ≤ 255) :
    Calls Tryz.prog 104 #[.pointer (some ⟨r, 0, none⟩)] w fun e w' => e = .panicked outV ∧ Kept (fun g => g = r) w w' := by
  have hrw : r < w.heap.size := World.block_lt_of_cell? w _ h0
  have hbA : ∀ o, Below w0.heap.size w0 (w.alloc o) := fun o => hb.alloc hb.size _
  have h0A : ∀ o, (w.alloc o).cell? ⟨r, 0, none⟩ = some (.slice a n c) := fun o => (World.cell?_alloc_old w o _ (by simp; omega)).trans h0
  have hfA : ∀ o, (w.alloc o).frozen? ⟨r, 0, none⟩ = false := fun o => (World.frozen?_alloc_old w o _ (by simp; omega)).trans hf
  by_cases h8 : n < 8
  · go_enter Tryz.func104, Tryz.ntmps104
    go_wp2_with fail
    refine (number_short r a n c 8 _ (h0A _) h8).mono ?_
    rintro e w1 ⟨rfl, rfl⟩
    exact ⟨rfl, rfl, Kept.of_below ((Below.refl _ _).alloc (Nat.le_refl _) _) _⟩
  by_cases h10 : n < 10
  · go_enter Tryz.func104, Tryz.ntmps104
    go_wp2_with fail
    refine (number_long r a n c 8 xs w0 _ ha (hbA _) hr (h0A _) (hfA _) (by omega) (by omega) (by omega) hc hm hby).mono ?_
    rintro e w1 ⟨rfl, a1, c1, k1, f1, l1, m1, r1, b1, e1⟩
    have K1 : Kept (fun g => g = r ∨ w.heap.size ≤ g) w w1 := by rw [e1]; exact (Kept.of_below ((Below.refl _ _).alloc (Nat.le_refl _) _) _).trans (Kept.setCell _ _ _ _ (Or.inl rfl))
    clear h0 hf hb hbA h0A hfA e1
    go_wp2_with fail
    refine (number_short r a1 (n - 8) c1 2 w1 k1 (by omega)).mono ?_
    rintro e w2 ⟨rfl, rfl⟩
    exact ⟨rfl, rfl, kept_new K1⟩
  · go_enter Tryz.func104, Tryz.ntmps104
    go_wp2_with fail
    refine (number_long r a n c 8 xs w0 _ ha (hbA _) hr (h0A _) (hfA _) (by omega) (by omega) (by omega) hc hm hby).mono ?_
    rintro e w1 ⟨rfl, a1, c1, k1, f1, l1, m1, r1, b1, e1⟩
    have K1 : Kept (fun g => g = r ∨ w.heap.size ≤ g) w w1 := by rw [e1]; exact (Kept.of_below ((Below.refl _ _).alloc (Nat.le_refl _) _) _).trans (Kept.setCell _ _ _ _ (Or.inl rfl))
    clear h0 hf hb hbA h0A hfA e1
    go_wp2_with fail
    refine (number_long r a1 (n - 8) c1 2 (xs.drop 8) w0 w1 r1 b1 hr k1 f1 (by omega) (by omega) (by omega) l1 (by omega) (fun i hi => by rw [List.getElem?_drop]; exact hby _ (by omega))).mono ?_
    rintro e w2 ⟨rfl, a2, c2, k2, f2, l2, m2, r2, b2, e2⟩
    have K2 : Kept (fun g => g = r ∨ w.heap.size ≤ g) w w2 := by rw [e2]; exact K1.trans (Kept.setCell _ _ _ _ (Or.inl rfl))
    clear k1 f1 b1 e2
    go_wp2_with fail
    refine (number_short r a2 (n - 8 - 2) c2 2 w2 k2 (by omega)).mono ?_
    rintro e w3 ⟨rfl, rfl⟩
    exact ⟨rfl, rfl, kept_new K2⟩
end Go.Proofs.YtonpdbajoidigaaGreatDoor

/-
  The program's DecodeHeader.
-/
namespace Go.Proofs.YtonpdbajoidigaaGreatDoor
open Go.RowKit
set_option linter.unusedSimpArgs false
set_option linter.unusedVariables false

theorem assert_out (w : World) : (Instr.typeAssert (.iface 200 (.agg #[])) 20 200 true).run Tryz.prog w = .ok (.tuple #[.agg #[], .bool true]) w := by
  unfold Instr.typeAssert
  simp [run_underlying Tryz.underlying200]

set_option maxHeartbeats 400000 in
theorem ranOut_out (w : World) : Calls Tryz.prog 103 #[.iface 200 (.agg #[])] w fun e w' => e = .returned (.bool true) ∧ Below w.heap.size w w' := by
  have hta := assert_out
  go_enter Tryz.func103, Tryz.ntmps103
  go_wp2
  go_ret
  exact ⟨rfl, (Below.refl _ _).alloc (Nat.le_refl _) _⟩
set_option maxHeartbeats 400000 in
theorem ranOut_nil (w : World) : Calls Tryz.prog 103 #[.nilIface] w fun e w' => e = .returned (.bool false) ∧ w' = w := by
  go_enter Tryz.func103, Tryz.ntmps103
  go_wp2
  go_ret
  exact ⟨rfl, rfl⟩

set_option maxHeartbeats 400000 in
theorem catch_out (g : Nat) (x0 x1 x2 x3 : Value) (w : World) (hg : w.heap[g]? = some (.cells #[x0, x1, x2, x3] 137 (0, 0))) :
    CallsD Tryz.prog 102 #[.pointer (some ⟨g, 0, none⟩)] (.panicking outV) w fun e u' w' =>
      e = .returned (.tuple #[]) ∧ u' = .panicking [{ v := .iface 200 (.agg #[]), recovered := true }] ∧ Kept (fun x => x = g) w w' ∧ w'.cell? ⟨g, 0, none⟩ = some (.bool false) ∧ w'.cell? ⟨g, 1, none⟩ = some (.int .i64 0) ∧ w'.cell? ⟨g, 2, none⟩ = some (.int .i64 0) ∧ w'.cell? ⟨g, 3, none⟩ = some (.int .i64 0) := by
  refine callsD_of_wpS Tryz.func102 rfl fun c₀ cs hu => ?_
  apply wpS_seq
  apply wpS_region
  simp [wpOpsS, go_sem, recoverD, hu, outV, Tryz.ntmps102, Exit.thenS]
  refine (ranOut_out w).mono ?_
  rintro e w1 ⟨rfl, hb⟩
  have lg : g < w.heap.size := (Array.getElem?_eq_some_iff.1 hg).1
  have k1 := (hb.block g lg).trans hg
  have t0 : w1.cell? ⟨g, 0, none⟩ = some x0 := by rw [cell_of_row w1 g 0 _ _ _ k1]; rfl
  have t1 : w1.cell? ⟨g, 1, none⟩ = some x1 := by rw [cell_of_row w1 g 1 _ _ _ k1]; rfl
  have t2 : w1.cell? ⟨g, 2, none⟩ = some x2 := by rw [cell_of_row w1 g 2 _ _ _ k1]; rfl
  have t3 : w1.cell? ⟨g, 3, none⟩ = some x3 := by rw [cell_of_row w1 g 3 _ _ _ k1]; rfl
  have z0 : w1.frozen? ⟨g, 0, none⟩ = false := by simp [World.frozen?, k1]
  have z1 : w1.frozen? ⟨g, 1, none⟩ = false := by simp [World.frozen?, k1]
  have z2 : w1.frozen? ⟨g, 2, none⟩ = false := by simp [World.frozen?, k1]
  have z3 : w1.frozen? ⟨g, 3, none⟩ = false := by simp [World.frozen?, k1]
  refine wpS_cond (t := true) (by simp [Act.eval, Array.replicate]) ?_
  simp only [if_true]
  apply wpS_region
  simp [wpOpsS, go_sem, t0, t1, t2, t3, z0, z1, z2, z3, bodyPostS, results, Tryz.results102]
  have hG : (fun x => x = g) g := rfl
  exact ((((Kept.of_below hb (fun x => x = g)).trans (Kept.setCell w1 ⟨g, 0, none⟩ (.bool false) (fun x => x = g) hG)).trans (Kept.setCell _ ⟨g, 1, none⟩ (.int .i64 0) (fun x => x = g) hG)).trans (Kept.setCell _ ⟨g, 2, none⟩ (.int .i64 0) (fun x => x = g) hG)).trans (Kept.setCell _ ⟨g, 3, none⟩ (.int .i64 0) (fun x => x = g) hG)

set_option maxHeartbeats 400000 in
theorem catch_idle (g : Nat) (w : World) :
    CallsD Tryz.prog 102 #[.pointer (some ⟨g, 0, none⟩)] .returning w fun e u' w' => e = .returned (.tuple #[]) ∧ u' = .returning ∧ w' = w := by
  refine callsD_of_wpS Tryz.func102 rfl fun c₀ cs hu => ?_
  apply wpS_seq
  apply wpS_region
  simp [wpOpsS, go_sem, recoverD, hu, Tryz.ntmps102, Exit.thenS]
  refine (ranOut_nil w).mono ?_
  rintro e w1 ⟨rfl, rfl⟩
  refine wpS_cond (t := false) (by simp [Act.eval, Array.replicate]) ?_
  simp only [Bool.false_eq_true, if_false]
  refine wpS_of_wp (wp_skip ?_)
  cases c₀
  simp_all [bodyPostS, results, Tryz.results102]

def toU (x : Int) : UInt8 := UInt8.ofNat x.toNat
theorem toU_nat {x : Int} (h : 0 ≤ x ∧ x ≤ 255) : ((toU x).toNat : Int) = x := by
  simp only [toU, UInt8.toNat_ofNat']
  omega
theorem u8s_cell {xs : List Int} (h : ∀ x ∈ xs, 0 ≤ x ∧ x ≤ 255) : u8s xs = (xs.map toU).map Extern.Stop.cell := by
  simp only [u8s, List.map_map]
  refine List.map_congr_left fun x hx => ?_
  show Value.int .u8 x = Value.int .u8 (Int.ofNat (toU x).toNat)
  rw [show Int.ofNat (toU x).toNat = x from toU_nat (h x hx)]
theorem toU_inj {xs ys : List Int} (hx : ∀ x ∈ xs, 0 ≤ x ∧ x ≤ 255) (hy : ∀ x ∈ ys, 0 ≤ x ∧ x ≤ 255) : (xs.map toU == ys.map toU) = decide (xs = ys) := by
  rw [Bool.eq_iff_iff, beq_iff_eq, decide_eq_true_eq]
  constructor
  · intro e
    have e2 : (xs.map toU).map (fun u => (u.toNat : Int)) = (ys.map toU).map (fun u => (u.toNat : Int)) := by rw [e]
    rw [List.map_map, List.map_map] at e2
    have f : ∀ zs : List Int, (∀ x ∈ zs, 0 ≤ x ∧ x ≤ 255) → zs.map ((fun u : UInt8 => (u.toNat : Int)) ∘ toU) = zs := by
      intro zs hz
      conv => rhs; rw [← List.map_id zs]
      exact List.map_congr_left fun x hx => toU_nat (hz x hx)
    rw [f xs hx, f ys hy] at e2
    exact e2
  · rintro rfl; rfl
theorem size5 (w : World) : (sizeOf 5).run Tryz.prog w = .ok 1 w := by
  obtain ⟨i0, hi, hz0, hz1, hz2⟩ := info_parts info5
  simp [sizeOf, typeInfo, hi, hz1]
theorem eql_blocks (xs ys : List Int) (w : World) (hx : ∀ x ∈ xs, 0 ≤ x ∧ x ≤ 255) (hy : ∀ x ∈ ys, 0 ≤ x ∧ x ≤ 255) (lx : xs.length = 64) (ly : ys.length = 64) :
    (binOp .eql 74 (.agg (u8s xs).toArray) (.agg (u8s ys).toArray)).run Tryz.prog w = .ok (.bool (decide (xs = ys))) w := by
  rw [u8s_cell hx, u8s_cell hy, run_eql_bytes w 74 5 64 Tryz.underlying74 Tryz.underlying5 size5 _ _ (by simp [lx]) (by simp [ly]), toU_inj hx hy]

set_option maxHeartbeats 400000 in
theorem isBlock_no (a : Option Addr) (n c : Nat) (X : Array Value) (w : World) (hn : n ≠ 64) :
    Calls Tryz.prog 106 #[.slice a n c, .agg X] w fun e w' => e = .returned (.bool false) ∧ Below w.heap.size w w' := by
  have hn' : ((n : Int) == 64) = false := by simp; omega
  go_enter Tryz.func106, Tryz.ntmps106
  go_wp2
  go_region
  go_wp2
  go_ret
  exact ⟨rfl, ((Below.refl _ _).alloc (Nat.le_refl _) _).drew⟩
theorem wp_eql {op : Oper} {a : Act} {w : World} {K : Act → World → Prop} {Q : Exit → Act → World → Prop} (t t' : TypeId) (x y : Operand) (ho : op.op = .binOp .eql t x y t') (u v r : Value) (hx : a.eval x = u) (hy : a.eval y = v)
    (hG : (eqGuard .eql t x y u v).run Tryz.prog w = .ok () w) (h : (binOp .eql t u v).run Tryz.prog w = .ok r w) (hK : K (a.put op.dst r) w) : op.wp Tryz.prog a w K Q := by
  unfold Oper.wp execOp
  simp only [ho, hx, hy, Sem.run_bind, hG, h, Result.andThen_ok, Sem.run_pure]
  exact hK
theorem if_yes {c : Bool} {A B : Prop} (h : c = true) (hA : A) : if c = true then A else B := by rw [if_pos h]; exact hA
theorem guard74 (x y : Operand) (X Y : Array Value) (w : World) : (eqGuard .eql 74 x y (.agg X) (.agg Y)).run Tryz.prog w = .ok () w := by
  have hgt : Tryz.prog.eqGuardType Tryz.prog.depth 74 = false := by kernel_rfl
  simp [eqGuard, hgt]
set_option maxHeartbeats 1000000 in
set_option maxRecDepth 100000 in
theorem isBlock_any (g off : Nat) (c : Nat) (xs ys : List Int) (w : World) (ha : IRow .u8 w (some ⟨g, off, none⟩) 64 xs) (hx : ∀ x ∈ xs, 0 ≤ x ∧ x ≤ 255) (hy : ∀ x ∈ ys, 0 ≤ x ∧ x ≤ 255) (ly : ys.length = 64) :
    Calls Tryz.prog 106 #[.slice (some ⟨g, off, none⟩) 64 c, .agg (u8s ys).toArray] w fun e w' => e = .returned (.bool (decide (xs = ys))) ∧ Below w.heap.size w w' := by
  have heq := fun W => eql_blocks xs ys W hx hy ha.1 ly
  have hl2 : ((w.alloc (.cells (u8s ys).toArray 74)).drew).rangeAt w.heap.size 0 (u8s ys) := fun j v hv => by
    show (w.alloc (.cells (u8s ys).toArray 74)).cell? _ = _
    rw [cell_of_row _ w.heap.size _ _ _ _ (heap_alloc_new w _)]; simpa using hv
  have hl1 : ((w.alloc (.cells (u8s ys).toArray 74)).drew).rangeAt g off (u8s xs) := fun j v hv => by
    show (w.alloc (.cells (u8s ys).toArray 74)).cell? _ = _
    rcases ha.2 with h0 | ⟨g', off', e, hc⟩
    · omega
    · injection e with e
      injection e with e1 e2 e3
      subst e1; subst e2
      have hj : j < xs.length := by
        have := (List.getElem?_eq_some_iff.1 hv).1
        rwa [u8s_len] at this
      have c1 := hc j (by rw [← ha.1]; exact hj)
      rw [((Below.refl _ _).alloc (Nat.le_refl _) _).cell (World.block_lt_of_cell? w _ c1), c1]
      rw [← hv]; simp [u8s, hj]
  have i1 : (Tryz.prog.info? 74).map (·.size) = some (u8s xs).length := by rw [u8s_len, ha.1]; exact info74s
  have i2 : (Tryz.prog.info? 74).map (·.size) = some (u8s ys).length := by rw [u8s_len, ly]; exact info74s
  have hB : Below w.heap.size w (w.alloc (.cells (u8s ys).toArray 74)).drew := ((Below.refl _ _).alloc (Nat.le_refl _) _).drew
  have HE : Hid (∀ W, (binOp .eql 74 (.agg (u8s xs).toArray) (.agg (u8s ys).toArray)).run Tryz.prog W = .ok (.bool (decide (xs = ys))) W) := heq
  have HL : Hid (((w.alloc (.cells (u8s ys).toArray 74)).drew).rangeAt w.heap.size 0 (u8s ys) ∧ ((w.alloc (.cells (u8s ys).toArray 74)).drew).rangeAt g off (u8s xs)) := ⟨hl2, hl1⟩
  have HI : Hid ((Tryz.prog.info? 74).map (·.size) = some (u8s xs).length ∧ (Tryz.prog.info? 74).map (·.size) = some (u8s ys).length) := ⟨i1, i2⟩
  clear hl1 hl2 ha hx hy ly heq i1 i2
  generalize u8s ys = Y at *
  generalize u8s xs = X at *
  generalize decide (xs = ys) = b at *
  have harr : ∀ W, (Instr.arrayAt 74 (.slice (some ⟨g, off, none⟩) 64 c)).run Tryz.prog W = .ok (.pointer (some ⟨g, off, none⟩)) W := fun W => by simp [Instr.arrayAt, run_underlying Tryz.underlying74]
  go_enter Tryz.func106, Tryz.ntmps106
  go_wp2
  generalize w.alloc (.cells Y.toArray 74) = W at *
  refine wp_region_any (by kernel_rfl) ?_
  change wpAny _ _ _ _ _ _ _ (World.drew _)
  refine wpAny_ready (rs := [0]) (by kernel_rfl) (by simp) ?_
  refine AllReady.cons rfl (fun K hK => ?_) AllReady.nil
  go_simp
  refine hK _ _ ?_
  clear hK K
  refine wpAny_ready (rs := [1]) (by kernel_rfl) (by simp) ?_
  refine AllReady.cons rfl (fun K hK => ?_) AllReady.nil
  go_simp
  refine hK _ _ ?_
  clear hK K
  refine wpAny_ready (rs := [2]) (by kernel_rfl) (by simp) ?_
  refine AllReady.cons rfl (fun K hK => ?_) AllReady.nil
  go_simp
  refine hK _ _ ?_
  clear hK K
  refine wpAny_ready (rs := [3]) (by kernel_rfl) (by simp) ?_
  refine AllReady.cons rfl (fun K hK => ?_) AllReady.nil
  go_simp
  refine hK _ _ ?_
  clear hK K
  refine wpAny_ready (rs := [4, 7]) (by kernel_rfl) (by simp) ?_
  refine AllReady.cons rfl (fun K hK => ?_) (AllReady.cons rfl (fun K hK => ?_) AllReady.nil)
  · go_simp
    refine hK _ _ ?_
    clear hK K
    refine wpAny_ready (rs := [5, 7]) (by kernel_rfl) (by simp) ?_
    refine AllReady.cons rfl (fun K hK => ?_) (AllReady.cons rfl (fun K hK => ?_) AllReady.nil)
    · go_simp
      refine hK _ _ ?_
      clear hK K
      refine wpAny_ready (rs := [6, 7]) (by kernel_rfl) (by simp) ?_
      refine AllReady.cons rfl (fun K hK => ?_) (AllReady.cons rfl (fun K hK => ?_) AllReady.nil)
      · refine if_yes rfl ?_
        refine wp_load_mid 74 (.tmp 10) rfl g off rfl X _ HL.out.2 Tryz.underlying74 rfl HI.out.1 ?_
        go_simp
        refine hK _ _ ?_
        clear hK K
        refine wpAny_ready (rs := [7]) (by kernel_rfl) (by simp) ?_
        refine AllReady.cons rfl (fun K hK => ?_) AllReady.nil
        refine if_yes rfl ?_
        refine wp_load_mid 74 (.tmp 3) rfl w.heap.size 0 rfl Y _ HL.out.1 Tryz.underlying74 rfl HI.out.2 ?_
        go_simp
        refine hK _ _ ?_
        clear hK K
        refine wpAny_ready (rs := [8]) (by kernel_rfl) (by simp) ?_
        refine AllReady.cons rfl (fun K hK => ?_) AllReady.nil
        refine if_yes rfl ?_
        refine wp_eql 74 74 (.tmp 11) (.tmp 12) rfl (.agg X.toArray) (.agg Y.toArray) _ rfl rfl (guard74 _ _ _ _ _) (HE.out _) ?_
        go_simp
        refine hK _ _ ?_
        clear hK K
        refine wpAny_ready (rs := [9]) (by kernel_rfl) (by simp) ?_
        refine AllReady.cons rfl (fun K hK => ?_) AllReady.nil
        go_simp
        refine hK _ _ ?_
        clear hK K
        refine wpAny_ready (rs := [10]) (by kernel_rfl) (by simp) ?_
        refine AllReady.cons rfl (fun K hK => ?_) AllReady.nil
        go_simp
        refine hK _ _ ?_
        clear hK K
        refine wpAny_done (by kernel_rfl) ?_ _
        go_wp2
        go_ret
        exact ⟨rfl, hB⟩
      · refine if_yes rfl ?_
        refine wp_load_mid 74 (.tmp 3) rfl w.heap.size 0 rfl Y _ HL.out.1 Tryz.underlying74 rfl HI.out.2 ?_
        go_simp
        refine hK _ _ ?_
        clear hK K
        refine wpAny_ready (rs := [6]) (by kernel_rfl) (by simp) ?_
        refine AllReady.cons rfl (fun K hK => ?_) AllReady.nil
        refine if_yes rfl ?_
        refine wp_load_mid 74 (.tmp 10) rfl g off rfl X _ HL.out.2 Tryz.underlying74 rfl HI.out.1 ?_
        go_simp
        refine hK _ _ ?_
        clear hK K
        refine wpAny_ready (rs := [8]) (by kernel_rfl) (by simp) ?_
        refine AllReady.cons rfl (fun K hK => ?_) AllReady.nil
        refine if_yes rfl ?_
        refine wp_eql 74 74 (.tmp 11) (.tmp 12) rfl (.agg X.toArray) (.agg Y.toArray) _ rfl rfl (guard74 _ _ _ _ _) (HE.out _) ?_
        go_simp
        refine hK _ _ ?_
        clear hK K
        refine wpAny_ready (rs := [9]) (by kernel_rfl) (by simp) ?_
        refine AllReady.cons rfl (fun K hK => ?_) AllReady.nil
        go_simp
        refine hK _ _ ?_
        clear hK K
        refine wpAny_ready (rs := [10]) (by kernel_rfl) (by simp) ?_
        refine AllReady.cons rfl (fun K hK => ?_) AllReady.nil
        go_simp
        refine hK _ _ ?_
        clear hK K
        refine wpAny_done (by kernel_rfl) ?_ _
        go_wp2
        go_ret
        exact ⟨rfl, hB⟩
    · refine if_yes rfl ?_
      refine wp_load_mid 74 (.tmp 3) rfl w.heap.size 0 rfl Y _ HL.out.1 Tryz.underlying74 rfl HI.out.2 ?_
      go_simp
      refine hK _ _ ?_
      clear hK K
      refine wpAny_ready (rs := [5]) (by kernel_rfl) (by simp) ?_
      refine AllReady.cons rfl (fun K hK => ?_) AllReady.nil
      go_simp
      refine hK _ _ ?_
      clear hK K
      refine wpAny_ready (rs := [6]) (by kernel_rfl) (by simp) ?_
      refine AllReady.cons rfl (fun K hK => ?_) AllReady.nil
      refine if_yes rfl ?_
      refine wp_load_mid 74 (.tmp 10) rfl g off rfl X _ HL.out.2 Tryz.underlying74 rfl HI.out.1 ?_
      go_simp
      refine hK _ _ ?_
      clear hK K
      refine wpAny_ready (rs := [8]) (by kernel_rfl) (by simp) ?_
      refine AllReady.cons rfl (fun K hK => ?_) AllReady.nil
      refine if_yes rfl ?_
      refine wp_eql 74 74 (.tmp 11) (.tmp 12) rfl (.agg X.toArray) (.agg Y.toArray) _ rfl rfl (guard74 _ _ _ _ _) (HE.out _) ?_
      go_simp
      refine hK _ _ ?_
      clear hK K
      refine wpAny_ready (rs := [9]) (by kernel_rfl) (by simp) ?_
      refine AllReady.cons rfl (fun K hK => ?_) AllReady.nil
      go_simp
      refine hK _ _ ?_
      clear hK K
      refine wpAny_ready (rs := [10]) (by kernel_rfl) (by simp) ?_
      refine AllReady.cons rfl (fun K hK => ?_) AllReady.nil
      go_simp
      refine hK _ _ ?_
      clear hK K
      refine wpAny_done (by kernel_rfl) ?_ _
      go_wp2
      go_ret
      exact ⟨rfl, hB⟩
  · refine if_yes rfl ?_
    refine wp_load_mid 74 (.tmp 3) rfl w.heap.size 0 rfl Y _ HL.out.1 Tryz.underlying74 rfl HI.out.2 ?_
    go_simp
    refine hK _ _ ?_
    clear hK K
    refine wpAny_ready (rs := [4]) (by kernel_rfl) (by simp) ?_
    refine AllReady.cons rfl (fun K hK => ?_) AllReady.nil
    go_simp
    refine hK _ _ ?_
    clear hK K
    refine wpAny_ready (rs := [5]) (by kernel_rfl) (by simp) ?_
    refine AllReady.cons rfl (fun K hK => ?_) AllReady.nil
    go_simp
    refine hK _ _ ?_
    clear hK K
    refine wpAny_ready (rs := [6]) (by kernel_rfl) (by simp) ?_
    refine AllReady.cons rfl (fun K hK => ?_) AllReady.nil
    refine if_yes rfl ?_
    refine wp_load_mid 74 (.tmp 10) rfl g off rfl X _ HL.out.2 Tryz.underlying74 rfl HI.out.1 ?_
    go_simp
    refine hK _ _ ?_
    clear hK K
    refine wpAny_ready (rs := [8]) (by kernel_rfl) (by simp) ?_
    refine AllReady.cons rfl (fun K hK => ?_) AllReady.nil
    refine if_yes rfl ?_
    refine wp_eql 74 74 (.tmp 11) (.tmp 12) rfl (.agg X.toArray) (.agg Y.toArray) _ rfl rfl (guard74 _ _ _ _ _) (HE.out _) ?_
    go_simp
    refine hK _ _ ?_
    clear hK K
    refine wpAny_ready (rs := [9]) (by kernel_rfl) (by simp) ?_
    refine AllReady.cons rfl (fun K hK => ?_) AllReady.nil
    go_simp
    refine hK _ _ ?_
    clear hK K
    refine wpAny_ready (rs := [10]) (by kernel_rfl) (by simp) ?_
    refine AllReady.cons rfl (fun K hK => ?_) AllReady.nil
    go_simp
    refine hK _ _ ?_
    clear hK K
    refine wpAny_done (by kernel_rfl) ?_ _
    go_wp2
    go_ret
    exact ⟨rfl, hB⟩
end Go.Proofs.YtonpdbajoidigaaGreatDoor

/-
  The program's DecodeHeader.
-/
namespace Go.Proofs.YtonpdbajoidigaaGreatDoor
open Go.RowKit
set_option linter.unusedSimpArgs false
set_option linter.unusedVariables false

def Byt (xs : List Int) : Prop := ∀ x ∈ xs, 0 ≤ x ∧ x ≤ 255
theorem Byt.at {xs : List Int} (h : Byt xs) (i : Nat) (hi : i < xs.length) : 0 ≤ xs[i]?.getD 0 ∧ xs[i]?.getD 0 ≤ 255 := by
  rw [List.getElem?_eq_getElem hi]; exact h _ (List.getElem_mem hi)
theorem beB_byt (v : Int) (n : Nat) : Byt (beB v n) := by
  induction n generalizing v with
  | zero => intro x hx; simp [beB] at hx
  | succ n ih =>
    intro x hx
    rw [beB, List.mem_append] at hx
    rcases hx with hx | hx
    · exact ih _ x hx
    · simp only [List.mem_singleton] at hx; subst hx; omega
theorem hdrL_byt (s p q : Int) : Byt (hdrL s p q) := by
  intro x hx
  simp only [hdrL, List.mem_append] at hx
  rcases hx with hx | hx | hx | hx | hx
  · exact beB_byt _ _ x hx
  · exact beB_byt _ _ x hx
  · exact beB_byt _ _ x hx
  · have := List.eq_of_mem_replicate hx; omega
  · exact beB_byt _ _ x hx
/-- What is decoded. -/
def decB (xs : List Int) : Bool := decide (xs.length = 64 ∧ xs = encH (hS xs) (hP xs) (hQ xs))
def decV (xs : List Int) : Array Value := if decB xs = true then #[.bool true, .int .i64 (hS xs), .int .i64 (hP xs), .int .i64 (hQ xs)] else #[.bool false, .int .i64 0, .int .i64 0, .int .i64 0]
theorem decV_no {xs : List Int} (h : decB xs = false) : decV xs = #[.bool false, .int .i64 0, .int .i64 0, .int .i64 0] := by unfold decV; rw [h]; rfl
theorem decV_yes {xs : List Int} (h : decB xs = true) : decV xs = #[.bool true, .int .i64 (hS xs), .int .i64 (hP xs), .int .i64 (hQ xs)] := by unfold decV; rw [h]; rfl
theorem decB_len {xs : List Int} (h : xs.length ≠ 64) : decB xs = false := by simp [decB, h]
theorem decB_bad {xs : List Int} (h : hdrB (hS xs) (hP xs) (hQ xs) = false) : decB xs = false := by
  unfold decB encH
  rw [h]
  simp only [decide_eq_false_iff_not]
  rintro ⟨h1, h2⟩
  rw [if_neg (by simp)] at h2
  rw [h2] at h1
  simp at h1
theorem decB_good {xs : List Int} (h : hdrB (hS xs) (hP xs) (hQ xs) = true) (hl : xs.length = 64) : decB xs = decide (xs = hdrL (hS xs) (hP xs) (hQ xs)) := by
  unfold decB encH
  rw [if_pos h]
  simp [hl]

theorem reader_start (w : World) (a : Option Addr) (n c : Nat) : ∀ o1, ((w.alloc o1).alloc (.cells #[.slice a n c] 204)).cell? ⟨w.heap.size + 1, 0, none⟩ = some (.slice a n c) ∧ ((w.alloc o1).alloc (.cells #[.slice a n c] 204)).frozen? ⟨w.heap.size + 1, 0, none⟩ = false := fun o1 => by
  have k := heap_alloc2_new w o1 (.cells #[.slice a n c] 204)
  exact ⟨by rw [cell_of_row _ (w.heap.size + 1) 0 _ _ _ k]; rfl, frozen_of_row _ _ _ _ _ k⟩

set_option maxHeartbeats 1000000 in
theorem decodeHeader_short (a : Option Addr) (n c : Nat) (xs : List Int) (w : World) (ha : IRow .u8 w a n xs) (hx : Byt xs) (hn : n < 12) (hc : n ≤ c) (hm : c ≤ 9223372036854775807) :
    Calls Tryz.prog 62 #[.slice a n c] w fun e w' => e = .returned (.agg #[.bool false, .int .i64 0, .int .i64 0, .int .i64 0]) ∧ Below w.heap.size w w' := by
  have hmf : ∀ (fn : Fn) (first cap : Array Value) (w : World), (Instr.makeFunc fn first cap).run Tryz.prog w = .ok (.func fn first cap) w := fun _ _ _ _ => rfl
  have hby := fun i (hi : i < n) => hx.at i (by rw [ha.1]; exact hi)
  obtain ⟨k1, k2, hb0, s0⟩ := @two_blocks w (.cells #[.bool false, .int .i64 0, .int .i64 0, .int .i64 0] 137) (.cells #[.slice a n c] 204)
  obtain ⟨g1, g2⟩ := reader_start w a n c (.cells #[.bool false, .int .i64 0, .int .i64 0, .int .i64 0] 137)
  go_enter_defers Tryz.func62, Tryz.ntmps62
  go_wp2_with fail
  refine (readHeader_short (w.heap.size + 1) a n c xs w _ ha hb0 (by omega) g1 g2 hn hc hm hby).mono ?_
  rintro e w1 ⟨rfl, hk1⟩
  have kN := (hk1.block w.heap.size (by rw [s0]; omega) (by omega)).trans k1
  have hB1 : Below w.heap.size w w1 := hb0.trans (hk1.below (by rw [s0]; omega) (fun g hg => by omega))
  refine leaves_cons (f := 102) (args := #[.pointer (some ⟨w.heap.size, 0, none⟩)]) (by simp) (by simp [go_sem]) ?_
  refine (catch_out w.heap.size _ _ _ _ w1 kN).mono ?_
  rintro e u' w2 ⟨rfl, rfl, hk2, c0, c1, c2, c3⟩
  simp [Leaves, settle, results, Tryz.results62, go_sem, c0, c1, c2, c3]
  exact hB1.trans (hk2.below hB1.size (fun g hg => by omega))

theorem box3 (w1 : World) (s p q : Int) : Below w1.heap.size w1 (w1.alloc (.cells #[.int .i64 s, .int .i64 p, .int .i64 q] 77)) ∧
    (w1.alloc (.cells #[.int .i64 s, .int .i64 p, .int .i64 q] 77)).cell? ⟨w1.heap.size, 0, none⟩ = some (.int .i64 s) ∧
    (w1.alloc (.cells #[.int .i64 s, .int .i64 p, .int .i64 q] 77)).cell? ⟨w1.heap.size, 1, none⟩ = some (.int .i64 p) ∧
    (w1.alloc (.cells #[.int .i64 s, .int .i64 p, .int .i64 q] 77)).cell? ⟨w1.heap.size, 2, none⟩ = some (.int .i64 q) :=
  ⟨(Below.refl _ _).alloc (Nat.le_refl _) _, three_cells (heap_alloc_new w1 _)⟩

theorem cells4 {w : World} {g : Nat} {x0 x1 x2 x3 : Value} (k1 : w.heap[g]? = some (.cells #[x0, x1, x2, x3] 137 (0, 0))) :
    (w.cell? ⟨g, 0, none⟩ = some x0 ∧ w.cell? ⟨g, 1, none⟩ = some x1 ∧ w.cell? ⟨g, 2, none⟩ = some x2 ∧ w.cell? ⟨g, 3, none⟩ = some x3) ∧ w.frozen? ⟨g, 0, none⟩ = false ∧ w.frozen? ⟨g, 1, none⟩ = false ∧ w.frozen? ⟨g, 2, none⟩ = false ∧ w.frozen? ⟨g, 3, none⟩ = false := by
  refine ⟨⟨?_, ?_, ?_, ?_⟩, ?_, ?_, ?_, ?_⟩
  · rw [cell_of_row w g 0 _ _ _ k1]; rfl
  · rw [cell_of_row w g 1 _ _ _ k1]; rfl
  · rw [cell_of_row w g 2 _ _ _ k1]; rfl
  · rw [cell_of_row w g 3 _ _ _ k1]; rfl
  all_goals simp [World.frozen?, k1]

set_option maxHeartbeats 2000000 in
theorem decodeHeader_long (a : Option Addr) (n c : Nat) (xs : List Int) (w : World) (ha : IRow .u8 w a n xs) (hx : Byt xs) (hn : 12 ≤ n) (hc : n ≤ c) (hm : c ≤ 9223372036854775807) :
    Calls Tryz.prog 62 #[.slice a n c] w fun e w' => e = .returned (.agg (decV xs)) ∧ Below w.heap.size w w' := by
  have hmf : ∀ (fn : Fn) (first cap : Array Value) (w : World), (Instr.makeFunc fn first cap).run Tryz.prog w = .ok (.func fn first cap) w := fun _ _ _ _ => rfl
  have hby := fun i (hi : i < n) => hx.at i (by rw [ha.1]; exact hi)
  obtain ⟨k1, k2, hb0, s0⟩ := @two_blocks w (.cells #[.bool false, .int .i64 0, .int .i64 0, .int .i64 0] 137) (.cells #[.slice a n c] 204)
  obtain ⟨g1, g2⟩ := reader_start w a n c (.cells #[.bool false, .int .i64 0, .int .i64 0, .int .i64 0] 137)
  have HA : Hid (IRow .u8 w a n xs ∧ Byt xs) := ⟨ha, hx⟩
  have HG : Hid (hdrB (hS xs) (hP xs) (hQ xs) = true → xs.length = 64 → decB xs = decide (xs = hdrL (hS xs) (hP xs) (hQ xs))) := decB_good
  have HN : Hid (hdrB (hS xs) (hP xs) (hQ xs) = false → decB xs = false) := decB_bad
  have HY : Hid (decB xs = true → decV xs = #[.bool true, .int .i64 (hS xs), .int .i64 (hP xs), .int .i64 (hQ xs)]) := decV_yes
  have HM : ∀ s p q : Int, Byt (hdrL s p q) := hdrL_byt
  go_enter_defers Tryz.func62, Tryz.ntmps62
  go_wp2_with fail
  refine (readHeader_long (w.heap.size + 1) a n c xs w _ ha hb0 (by omega) g1 g2 hn hc hm hby).mono ?_
  rintro e w1 ⟨rfl, hk1⟩
  have kN := (hk1.block w.heap.size (by rw [s0]; omega) (by omega)).trans k1
  have hB1 : Below w.heap.size w w1 := hb0.trans (hk1.below (by rw [s0]; omega) (fun g hg => by omega))
  have lN : w.heap.size < w1.heap.size := (Array.getElem?_eq_some_iff.1 kN).1
  clear k1 k2 hb0 s0 g1 g2 hk1 ha hx hby
  generalize hS xs = s at *
  generalize hP xs = p at *
  generalize hQ xs = q at *
  obtain ⟨hW, d0, d1, d2⟩ := box3 w1 s p q
  go_wp2_with fail
  refine (validHeader_any s p q _).mono ?_
  rintro e w3 ⟨rfl, hb3⟩
  have hs3 := hb3.size
  have hW1 := hW.size
  have e0 := (hb3.cell (World.block_lt_of_cell? _ _ d0)).trans d0
  have e1 := (hb3.cell (World.block_lt_of_cell? _ _ d1)).trans d1
  have e2 := (hb3.cell (World.block_lt_of_cell? _ _ d2)).trans d2
  have hB3 : Below w.heap.size w w3 := (hB1.trans (hW.mono (by omega))).trans (hb3.mono (by omega))
  have kN3 := ((hb3.block w.heap.size (by omega)).trans (hW.block w.heap.size lN)).trans kN
  clear hW d0 d1 d2 hb3 hs3 hW1 hB1 kN
  obtain ⟨⟨t0, t1, t2, t3⟩, z0, z1, z2, z3⟩ := cells4 kN3
  cases hv : hdrB s p q
  · have HD : Hid (decV xs = #[.bool false, .int .i64 0, .int .i64 0, .int .i64 0]) := decV_no (HN.out hv)
    go_wp2
    refine leaves_cons (f := 102) (args := #[.pointer (some ⟨w.heap.size, 0, none⟩)]) (by simp) (by simp [go_sem]) ?_
    refine (catch_idle w.heap.size _).mono ?_
    rintro e u' w'' ⟨rfl, rfl, rfl⟩
    simp [Leaves, settle, results, Tryz.results62, go_sem, t0, t1, t2, t3, HD.out]
    exact (((hB3.setCell (Nat.le_refl _) _).setCell (Nat.le_refl _) _).setCell (Nat.le_refl _) _).setCell (Nat.le_refl _) _
  · go_wp2_with fail
    refine (headerBlock_any s p q _ hv).mono ?_
    rintro e w4 ⟨rfl, hb4⟩
    have hs4 := hb4.size
    have kN4 := (hb4.block w.heap.size (Array.getElem?_eq_some_iff.1 kN3).1).trans kN3
    have hB4 : Below w.heap.size w w4 := hB3.trans (hb4.mono hB3.size)
    have f0 := (hb4.cell (World.block_lt_of_cell? _ _ e0)).trans e0
    have f1 := (hb4.cell (World.block_lt_of_cell? _ _ e1)).trans e1
    have f2 := (hb4.cell (World.block_lt_of_cell? _ _ e2)).trans e2
    have l4 : w1.heap.size < w4.heap.size := World.block_lt_of_cell? _ _ f0
    clear e0 e1 e2 hb4 hB3 kN3 t0 t1 t2 t3 z0 z1 z2 z3
    by_cases h64 : n = 64
    · subst h64
      rcases HA.out.1.2 with h0 | ⟨g, off, rfl, hcell⟩
      · omega
      clear hcell
      go_wp2_with fail
      refine (isBlock_any g off c xs (hdrL s p q) _ (HA.out.1.below hB4) HA.out.2 (HM s p q) (hdrL_len s p q)).mono ?_
      rintro e w5 ⟨rfl, hb5⟩
      have kN5 := (hb5.block w.heap.size (Array.getElem?_eq_some_iff.1 kN4).1).trans kN4
      have hB5 : Below w.heap.size w w5 := hB4.trans (hb5.mono hB4.size)
      have j0 := (hb5.cell (World.block_lt_of_cell? _ _ f0)).trans f0
      have j1 := (hb5.cell (World.block_lt_of_cell? _ _ f1)).trans f1
      have j2 := (hb5.cell (World.block_lt_of_cell? _ _ f2)).trans f2
      have hdd := HG.out hv HA.out.1.1
      rw [← hdd]
      clear f0 f1 f2 hb5 hB4 kN4 hdd
      obtain ⟨⟨t0, t1, t2, t3⟩, z0, z1, z2, z3⟩ := cells4 kN5
      cases hd : decB xs
      · have HD : Hid (decV xs = #[.bool false, .int .i64 0, .int .i64 0, .int .i64 0]) := decV_no hd
        go_wp2
        refine leaves_cons (f := 102) (args := #[.pointer (some ⟨w.heap.size, 0, none⟩)]) (by simp) (by simp [go_sem]) ?_
        refine (catch_idle w.heap.size _).mono ?_
        rintro e u' w'' ⟨rfl, rfl, rfl⟩
        simp [Leaves, settle, results, Tryz.results62, go_sem, t0, t1, t2, t3, HD.out]
        exact (((hB5.setCell (Nat.le_refl _) _).setCell (Nat.le_refl _) _).setCell (Nat.le_refl _) _).setCell (Nat.le_refl _) _
      · have HD : Hid (decV xs = #[.bool true, .int .i64 s, .int .i64 p, .int .i64 q]) := HY.out hd
        go_wp2
        refine leaves_cons (f := 102) (args := #[.pointer (some ⟨w.heap.size, 0, none⟩)]) (by simp) (by simp [go_sem]) ?_
        refine (catch_idle w.heap.size _).mono ?_
        rintro e u' w'' ⟨rfl, rfl, rfl⟩
        simp [Leaves, settle, results, Tryz.results62, go_sem, t0, t1, t2, t3, HD.out]
        exact (((hB5.setCell (Nat.le_refl _) _).setCell (Nat.le_refl _) _).setCell (Nat.le_refl _) _).setCell (Nat.le_refl _) _
    · have HD : Hid (decV xs = #[.bool false, .int .i64 0, .int .i64 0, .int .i64 0]) := decV_no (decB_len (xs := xs) (by rw [HA.out.1.1]; exact h64))
      go_wp2_with fail
      refine (isBlock_no a n c _ _ h64).mono ?_
      rintro e w5 ⟨rfl, hb5⟩
      have kN5 := (hb5.block w.heap.size (Array.getElem?_eq_some_iff.1 kN4).1).trans kN4
      have hB5 : Below w.heap.size w w5 := hB4.trans (hb5.mono hB4.size)
      clear f0 f1 f2 hb5 hB4 kN4
      obtain ⟨⟨t0, t1, t2, t3⟩, z0, z1, z2, z3⟩ := cells4 kN5
      go_wp2
      refine leaves_cons (f := 102) (args := #[.pointer (some ⟨w.heap.size, 0, none⟩)]) (by simp) (by simp [go_sem]) ?_
      refine (catch_idle w.heap.size _).mono ?_
      rintro e u' w'' ⟨rfl, rfl, rfl⟩
      simp [Leaves, settle, results, Tryz.results62, go_sem, t0, t1, t2, t3, HD.out]
      exact (((hB5.setCell (Nat.le_refl _) _).setCell (Nat.le_refl _) _).setCell (Nat.le_refl _) _).setCell (Nat.le_refl _) _
end Go.Proofs.YtonpdbajoidigaaGreatDoor

/-
  The specification's DecodeHeader.
-/
namespace Go.Proofs.YtonpdbajoidigaaGreatDoor
open Go.RowKit
set_option linter.unusedSimpArgs false
set_option linter.unusedVariables false

theorem irow_takeN {k : IntKind} {w : World} {a : Option Addr} {n : Nat} {xs : List Int} (j : Nat) (hj : j ≤ n) (h : IRow k w a n xs) : IRow k w a j (xs.take j) := by
  obtain ⟨h1, h2⟩ := h
  refine ⟨by simp [h1]; omega, ?_⟩
  by_cases h0 : j = 0
  · exact .inl h0
  rcases h2 with h2 | ⟨g, off, e, hc⟩
  · omega
  · refine .inr ⟨g, off, e, fun i hi => ?_⟩
    rw [hc i (by omega)]; simp [List.getElem?_take, hi]
def strOf (xs : List Int) : ByteArray := ⟨(xs.map toU).toArray⟩
theorem conv_str {w : World} {a : Option Addr} {n : Nat} (c : Nat) {xs : List Int} (h : IRow .u8 w a n xs) (hb : Byt xs) : (convert 22 9 (.slice a n c)).run Tryz.prog w = .ok (.string (strOf xs)) w := by
  obtain ⟨h1, h2⟩ := h
  rcases h2 with h2 | ⟨g, off, rfl, hc⟩
  · subst h2
    have : xs = [] := List.length_eq_zero_iff.1 h1
    subst this
    rw [run_convert_bytes_string w 22 9 5 a 0 c Tryz.underlying22 Tryz.underlying5 Tryz.underlying9]
    cases a <;> simp [Conv.bytesToString, loadCells, loadCellsFrom] <;> rfl
  · have := run_convert_bytes_back (P := Tryz.prog) w 22 9 5 ⟨g, off, none⟩ c (xs.map toU) Tryz.underlying22 Tryz.underlying5 Tryz.underlying9 (fun j hj => by
      have hj' : j < n := by rw [← h1]; simpa using hj
      rw [show (⟨g, off, none⟩ : Addr).add j = ⟨g, off + j, none⟩ from Addr.add_mid g off j, hc j hj']
      have hx := hb.at j (by rw [h1]; exact hj')
      rw [List.getElem?_eq_getElem (by rw [h1]; exact hj')] at hx ⊢
      simp only [Option.getD_some] at hx ⊢
      rw [List.getElem_map, toU_nat hx])
    rw [List.length_map, h1] at this
    exact this
theorem str_eq {xs ys : List Int} (hx : Byt xs) (hy : Byt ys) : ((strOf ys).toList == (strOf xs).toList) = decide (ys = xs) := by
  have e : ∀ zs : List Int, (strOf zs).toList = zs.map toU := fun zs => by rw [ByteArray.toList_eq]; simp [strOf]
  rw [e, e, toU_inj hy hx]
theorem numI_cons (v : Int) (l : List Int) : l.foldl (fun v b => v * 256 + b) v = v * 256 ^ l.length + numI l := by
  unfold numI
  induction l generalizing v with
  | nil => simp
  | cons b l ih =>
    simp only [List.foldl_cons, List.length_cons]
    rw [ih (v * 256 + b), ih (0 * 256 + b)]
    rw [Int.pow_succ]
    have : (v * 256 + b) * 256 ^ l.length = v * (256 ^ l.length * 256) + (0 * 256 + b) * 256 ^ l.length := by
      rw [Int.add_mul, Int.mul_assoc, Int.mul_comm 256 (256 ^ l.length)]; simp
    omega
theorem numI_bounds {l : List Int} (h : Byt l) : 0 ≤ numI l ∧ numI l < 256 ^ l.length := by
  induction l with
  | nil => simp [numI]
  | cons b l ih =>
    have ⟨i1, i2⟩ := ih (fun x hx => h x (by simp [hx]))
    have hb := h b (by simp)
    have e : numI (b :: l) = b * 256 ^ l.length + numI l := by
      have := numI_cons b l
      simpa [numI] using this
    rw [e, List.length_cons, Int.pow_succ]
    have p : (0 : Int) < 256 ^ l.length := Int.pow_pos (by omega)
    have m1 : 0 ≤ b * 256 ^ l.length := Int.mul_nonneg hb.1 (by omega)
    have m2 : b * 256 ^ l.length ≤ 255 * 256 ^ l.length := Int.mul_le_mul_of_nonneg_right hb.2 (by omega)
    omega
theorem numI_big {xs : List Int} (hx : Byt xs) (hl : xs.length = 64) (h0 : (127 : Int) < xs[0]?.getD 0) : hS xs < 0 := by
  match xs, hl with
  | b :: l, hl =>
    simp only [List.getElem?_cons_zero, Option.getD_some] at h0
    have hb := hx b (by simp)
    have ll : (l.take 7).length = 7 := by simp at hl ⊢; omega
    have hl7 : Byt (l.take 7) := fun x hx' => hx x (by simp [List.mem_of_mem_take hx'])
    have e : numI (b :: l.take 7) = b * 256 ^ 7 + numI (l.take 7) := by
      have := numI_cons b (l.take 7)
      rw [ll] at this
      simpa [numI] using this
    have ⟨i1, i2⟩ := numI_bounds hl7
    rw [ll] at i2
    unfold hS
    rw [List.take_succ_cons, e]
    unfold wrap64
    omega

end Go.Proofs.YtonpdbajoidigaaGreatDoor

/-
  The specification's DecodeHeader: the long way.
-/
namespace Go.Proofs.YtonpdbajoidigaaGreatDoor
open Go.RowKit
set_option linter.unusedSimpArgs false
set_option linter.unusedVariables false

theorem encH_byt (s p q : Int) : Byt (encH s p q) := by
  unfold encH
  split
  · exact hdrL_byt s p q
  · intro x hx; simp at hx
theorem after3 {w : World} (o1 o2 : Obj) : Below w.heap.size w ((w.alloc o1).drew.alloc o2) ∧ ((w.alloc o1).drew.alloc o2).heap[w.heap.size]? = some o1 ∧ ((w.alloc o1).drew.alloc o2).heap[w.heap.size + 1]? = some o2 := by
  obtain ⟨k1, k2, hb, s0⟩ := @two_blocks w o1 o2
  exact ⟨(((Below.refl _ _).alloc (Nat.le_refl _) _).drew).alloc (by simp) _, k1, k2⟩

end Go.Proofs.YtonpdbajoidigaaGreatDoor

/-
  FnExactDecodeHeader: the law's walk.
-/
namespace Go.Proofs.YtonpdbajoidigaaGreatDoor
open Go.RowKit
set_option linter.unusedSimpArgs false
set_option linter.unusedVariables false

theorem decodeHeader_impl (a : Option Addr) (n c : Nat) (xs : List Int) (w : World) (ha : IRow .u8 w a n xs) (hx : Byt xs) (hc : n ≤ c) (hm : c ≤ 9223372036854775807) :
    Calls Tryz.prog 62 #[.slice a n c] w fun e w' => e = .returned (.agg (decV xs)) ∧ Below w.heap.size w w' := by
  by_cases h : n < 12
  · have e := decV_no (decB_len (xs := xs) (by rw [ha.1]; omega))
    rw [e]
    exact decodeHeader_short a n c xs w ha hx h hc hm
  · exact decodeHeader_long a n c xs w ha hx (by omega) hc hm
theorem decV_shape (xs : List Int) : ∃ (b : Bool) (s p q : Int), decV xs = #[.bool b, .int .i64 s, .int .i64 p, .int .i64 q] := by
  cases h : decB xs
  · exact ⟨_, _, _, _, decV_no h⟩
  · exact ⟨_, _, _, _, decV_yes h⟩

end Go.Proofs.YtonpdbajoidigaaGreatDoor
