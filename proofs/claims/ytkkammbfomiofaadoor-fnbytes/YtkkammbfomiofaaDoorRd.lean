/-
  The reader of bytes.
-/
import Derived.Test.YtkkammbfomiofaaDoorHdl
import Derived.Defers
import Derived.Recover
import Derived.Laws.Pointers
namespace Go.Proofs.YtkkammbfomiofaaDoor
open Go.RowKit
set_option linter.unusedSimpArgs false
set_option linter.unusedVariables false

def outV : List PanicEntry := [{ v := Value.iface 58 (Value.agg #[]), recovered := false }]

theorem take_short (r : Nat) (a : Option Addr) (n c : Nat) (k : Nat) (w : World) (h0 : w.cell? ⟨r, 0, none⟩ = some (.slice a n c)) (hk : n < k) :
    Calls Tryd.prog 48 #[.pointer (some ⟨r, 0, none⟩), .int .i64 k] w fun e w' => e = .panicked outV ∧ w' = w := by
  go_enter Tryd.func48, Tryd.ntmps48
  go_wp2
  exact ⟨rfl, rfl, rfl⟩

theorem irow_drop {k : IntKind} {w : World} {g off n : Nat} {xs : List Int} (j : Nat) (hj : j < n) (h : IRow k w (some ⟨g, off, none⟩) n xs) : IRow k w (some ⟨g, off + j, none⟩) (n - j) (xs.drop j) := by
  obtain ⟨h1, h2⟩ := h
  rcases h2 with h2 | ⟨g', off', e, hc⟩
  · omega
  · injection e with e
    injection e with e1 e2 e3
    subst e1; subst e2
    refine ⟨by simp [h1], .inr ⟨g, off + j, rfl, fun i hi => ?_⟩⟩
    rw [Nat.add_assoc, hc (j + i) (by omega), List.getElem?_drop]

set_option maxHeartbeats 400000 in
theorem take_long (r : Nat) (a : Option Addr) (n c : Nat) (k : Nat) (xs : List Int) (w0 w : World) (ha : IRow .u8 w0 a n xs) (h0 : w.cell? ⟨r, 0, none⟩ = some (.slice a n c)) (hf : w.frozen? ⟨r, 0, none⟩ = false) (hk0 : 0 < k) (hk : k ≤ n) (hc : n ≤ c) (hm : c ≤ 9223372036854775807) :
    Calls Tryd.prog 48 #[.pointer (some ⟨r, 0, none⟩), .int .i64 k] w fun e w' => e = .returned (.slice a k c) ∧ ∃ a' c', w' = w.setCell ⟨r, 0, none⟩ (.slice a' (n - k) c') ∧ n - k ≤ c' ∧ c' ≤ c ∧ IRow .u8 w0 a' (n - k) (xs.drop k) := by
  rcases ha.2 with h1 | ⟨g, off, rfl, hcell⟩
  · omega
  have hd : k < n → IRow .u8 w0 (some ⟨g, off + k, none⟩) (n - k) (xs.drop k) := fun h => irow_drop k h ha
  have HL : Hid (xs.length = n) := ha.1
  clear ha hcell
  by_cases hck : c = k
  · have hnk : n = k := by omega
    subst hnk; subst hck
    go_enter Tryd.func48, Tryd.ntmps48
    go_wp2
    go_ret
    exact ⟨rfl, _, _, by rw [Nat.sub_self], by omega, by omega, ⟨by simp [HL.out], .inl (by omega)⟩⟩
  · go_enter Tryd.func48, Tryd.ntmps48
    go_wp2
    go_ret
    refine ⟨rfl, _, _, rfl, by omega, by omega, ?_⟩
    by_cases hlt : k < n
    · exact hd hlt
    · exact ⟨by simp [HL.out], .inl (by omega)⟩

/-- Big-endian. -/
def numI (l : List Int) : Int := l.foldl (fun v b => v * 256 + b) 0
theorem numI_succ (xs : List Int) (k : Nat) (h : k < xs.length) : numI (xs.take (k + 1)) = numI (xs.take k) * 256 + xs[k]?.getD 0 := by
  rw [List.take_succ_eq_append_getElem h]
  simp only [numI, List.foldl_append, List.foldl_cons, List.foldl_nil, List.getElem?_eq_getElem h, Option.getD_some]
theorem wrap_step (N x : Int) : wrap64 (wrap64 (wrap64 N * 256) + wrap64 x) = wrap64 (N * 256 + x) := by
  unfold wrap64; omega
theorem or_step (N x : Int) (h0 : 0 ≤ x) (h1 : x ≤ 255) : bits .or .i64 (wrap64 (wrap64 N * 256)) x = wrap64 (N * 256 + x) := by
  have e1 : (BitVec.ofInt 64 (wrap64 (wrap64 N * 256))).toNat = (wrap64 (wrap64 N * 256) % 18446744073709551616).toNat := by rw [BitVec.toNat_ofInt]; rfl
  have e2 : (BitVec.ofInt 64 x).toNat = x.toNat := by
    rw [BitVec.toNat_ofInt]
    show (x % 18446744073709551616).toNat = x.toNat
    omega
  show IntKind.i64.wrap ((BitVec.ofInt 64 (wrap64 (wrap64 N * 256)) ||| BitVec.ofInt 64 x).toNat : Int) = _
  rw [BitVec.toNat_or, e1, e2, IntKind.wrap_i64]
  have hA : (wrap64 (wrap64 N * 256) % 18446744073709551616).toNat = 2 ^ 8 * ((wrap64 (wrap64 N * 256) % 18446744073709551616).toNat / 256) := by unfold wrap64; omega
  rw [hA, ← Nat.two_pow_add_eq_or_of_lt (by omega : x.toNat < 2 ^ 8)]
  unfold wrap64; omega
theorem wrap_zero : wrap64 (numI []) = 0 := by show wrap64 0 = 0; unfold wrap64; omega

set_option maxHeartbeats 1000000 in
theorem number_long (r : Nat) (a : Option Addr) (n c : Nat) (k : Nat) (xs : List Int) (w0 w : World) (ha : IRow .u8 w0 a n xs) (hb : Below w0.heap.size w0 w) (hr : w0.heap.size ≤ r) (h0 : w.cell? ⟨r, 0, none⟩ = some (.slice a n c)) (hf : w.frozen? ⟨r, 0, none⟩ = false) (hk0 : 0 < k) (hk8 : k ≤ 8) (hk : k ≤ n) (hc : n ≤ c) (hm : c ≤ 9223372036854775807) (hby : ∀ i, i < n → 0 ≤ xs[i]?.getD 0 ∧ xs[i]?.getD 0 ≤ 255) :
    Calls Tryd.prog 49 #[.pointer (some ⟨r, 0, none⟩), .int .i64 k] w fun e w' => e = .returned (.int .i64 (wrap64 (numI (xs.take k)))) ∧ ∃ a' c', w'.cell? ⟨r, 0, none⟩ = some (.slice a' (n - k) c') ∧ w'.frozen? ⟨r, 0, none⟩ = false ∧ n - k ≤ c' ∧ c' ≤ c ∧ IRow .u8 w0 a' (n - k) (xs.drop k) ∧ Below w0.heap.size w0 w' ∧ w' = w.setCell ⟨r, 0, none⟩ (.slice a' (n - k) c') := by
  have HA : Hid (IRow .u8 w0 a n xs) := ha
  go_enter Tryd.func49, Tryd.ntmps49
  go_wp2_with fail
  refine (take_long r a n c k xs w0 _ ha h0 hf hk0 hk hc hm).mono ?_
  rintro e w1 ⟨rfl, a', c', rfl, q1, q2, q3⟩
  have hc1 : (w.setCell ⟨r, 0, none⟩ (.slice a' (n - k) c')).cell? ⟨r, 0, none⟩ = some (.slice a' (n - k) c') := World.cell?_setCell_same _ _ _ h0
  have hf1 : (w.setCell ⟨r, 0, none⟩ (.slice a' (n - k) c')).frozen? ⟨r, 0, none⟩ = false := (World.frozen?_setCell _ _ _ _).trans hf
  have hb1 : Below w0.heap.size w0 (w.setCell ⟨r, 0, none⟩ (.slice a' (n - k) c')) := hb.setCell hr _
  generalize hw1 : (w.setCell ⟨r, 0, none⟩ (.slice a' (n - k) c')) = w1 at *
  have HQ : Hid (w1.cell? ⟨r, 0, none⟩ = some (.slice a' (n - k) c') ∧ w1.frozen? ⟨r, 0, none⟩ = false ∧ IRow .u8 w0 a' (n - k) (xs.drop k) ∧ Below w0.heap.size w0 w1 ∧ w1 = w.setCell ⟨r, 0, none⟩ (.slice a' (n - k) c')) := ⟨hc1, hf1, q3, hb1, hw1.symm⟩
  clear h0 hf hb ha hc1 hf1 q3 hb1 hw1
  go_wp2
  go_loopw [5, 12] (fun v i wr => ∃ j : Nat, j ≤ k ∧ i = .int .i64 j ∧ v = .int .i64 (wrap64 (numI (xs.take j))) ∧ wr = w1) (fun _ i _ => k - (intOf i).toNat)
  case atStart => exact ⟨0, Nat.zero_le _, rfl, by rw [List.take_zero, wrap_zero], rfl⟩
  case round =>
    obtain ⟨j, hj, rfl, rfl, rfl⟩ := hrel
    by_cases hlt : j < k
    · rcases HA.out.2 with h0 | ⟨g, off, rfl, hc⟩
      · omega
      have c1 := hc j (by omega)
      rw [← HQ.out.2.2.2.1.cell (World.block_lt_of_cell? w0 _ c1)] at c1
      have HS : Hid (numI (xs.take (j + 1)) = numI (xs.take j) * 256 + xs[j]?.getD 0) := numI_succ xs j (by rw [HA.out.1]; omega)
      have HY := hby j (by omega)
      generalize xs[j]?.getD 0 = x at *
      clear hc
      go_wp2
      refine ⟨⟨j + 1, by omega, by go_num, by rw [HS.out, or_step _ _ HY.1 HY.2], trivial⟩, by simp [intOf]; omega⟩
    · have hkn : j = k := by omega
      subst hkn
      go_wp2
      go_ret
      exact ⟨rfl, a', c', HQ.out.1, HQ.out.2.1, q1, q2, HQ.out.2.2.1, HQ.out.2.2.2⟩

theorem number_short (r : Nat) (a : Option Addr) (n c : Nat) (k : Nat) (w : World) (h0 : w.cell? ⟨r, 0, none⟩ = some (.slice a n c)) (hk : n < k) :
    Calls Tryd.prog 49 #[.pointer (some ⟨r, 0, none⟩), .int .i64 k] w fun e w' => e = .panicked outV ∧ w' = w := by
  go_enter Tryd.func49, Tryd.ntmps49
  go_wp2_with fail
  refine (take_short r a n c k w h0 hk).mono ?_
  rintro e w1 ⟨rfl, rfl⟩
  exact ⟨rfl, rfl, rfl⟩

/-- The header's three numbers. -/
def hS (xs : List Int) : Int := wrap64 (numI (xs.take 8))
def hP (xs : List Int) : Int := wrap64 (numI ((xs.drop 8).take 2))
def hQ (xs : List Int) : Int := wrap64 (numI ((xs.drop 10).take 2))

theorem setCell_block {w : World} {r o b : Nat} {v : Value} (h : b ≠ r) : (w.setCell ⟨r, o, none⟩ v).heap[b]? = w.heap[b]? := by
  simp only [World.setCell, Array.getElem?_modify]
  rw [if_neg (by omega)]

theorem kept_new {G : Nat → Prop} {w w' : World} (h : Kept (fun g => G g ∨ w.heap.size ≤ g) w w') : Kept G w w' :=
  ⟨h.os, h.tape, h.output, h.size, fun j hj hg => h.block j hj (fun x => x.elim hg (by omega))⟩

set_option maxHeartbeats 1000000 in
theorem readHeader_long (r : Nat) (a : Option Addr) (n c : Nat) (xs : List Int) (w0 w : World) (ha : IRow .u8 w0 a n xs) (hb : Below w0.heap.size w0 w) (hr : w0.heap.size ≤ r) (h0 : w.cell? ⟨r, 0, none⟩ = some (.slice a n c)) (hf : w.frozen? ⟨r, 0, none⟩ = false) (hk : 12 ≤ n) (hc : n ≤ c) (hm : c ≤ 9223372036854775807) (hby : ∀ i, i < n → 0 ≤ xs[i]?.getD 0 ∧ xs[i]?.getD 0 ≤ 255) :
    Calls Tryd.prog 38 #[.pointer (some ⟨r, 0, none⟩)] w fun e w' => e = .returned (.agg #[.int .i64 (hS xs), .int .i64 (hP xs), .int .i64 (hQ xs)]) ∧ Kept (fun g => g = r) w w' := by
  have hrw : r < w.heap.size := World.block_lt_of_cell? w _ h0
  have hbA : ∀ o, Below w0.heap.size w0 (w.alloc o) := fun o => hb.alloc hb.size _
  have h0A : ∀ o, (w.alloc o).cell? ⟨r, 0, none⟩ = some (.slice a n c) := fun o => (World.cell?_alloc_old w o _ (by simp; omega)).trans h0
  have hfA : ∀ o, (w.alloc o).frozen? ⟨r, 0, none⟩ = false := fun o => (World.frozen?_alloc_old w o _ (by simp; omega)).trans hf
  have hs0 := hb.size
  go_enter Tryd.func38, Tryd.ntmps38
  go_wp2_with fail
  refine (number_long r a n c 8 xs w0 _ ha (hbA _) hr (h0A _) (hfA _) (by omega) (by omega) (by omega) hc hm hby).mono ?_
  rintro e w1 ⟨rfl, a1, c1, k1, f1, l1, m1, r1, b1, e1⟩
  have K1 : Kept (fun g => g = r ∨ w.heap.size ≤ g) w w1 := by rw [e1]; exact (Kept.of_below ((Below.refl _ _).alloc (Nat.le_refl _) _) _).trans (Kept.setCell _ _ _ _ (Or.inl rfl))
  have x1 : w1.heap[w.heap.size]? = some (.cells #[.int .i64 0, .int .i64 0, .int .i64 0] 40 (0, 0)) := by rw [e1, setCell_block (by omega)]; exact heap_alloc_new w _
  clear h0 hf hb hbA h0A hfA e1
  go_wp2_with fail
  refine (number_long r a1 (n - 8) c1 2 (xs.drop 8) w0 w1 r1 b1 hr k1 f1 (by omega) (by omega) (by omega) l1 (by omega) (fun i hi => by rw [List.getElem?_drop]; exact hby _ (by omega))).mono ?_
  rintro e w2 ⟨rfl, a2, c2, k2, f2, l2, m2, r2, b2, e2⟩
  have K2 : Kept (fun g => g = r ∨ w.heap.size ≤ g) w w2 := by rw [e2]; exact K1.trans (Kept.setCell _ _ _ _ (Or.inl rfl))
  have x2 : w2.heap[w.heap.size]? = some (.cells #[.int .i64 0, .int .i64 0, .int .i64 0] 40 (0, 0)) := by rw [e2, setCell_block (by omega)]; exact x1
  clear k1 f1 b1 x1 e2
  go_wp2_with fail
  refine (number_long r a2 (n - 8 - 2) c2 2 ((xs.drop 8).drop 2) w0 w2 r2 b2 hr k2 f2 (by omega) (by omega) (by omega) l2 (by omega) (fun i hi => by rw [List.getElem?_drop, List.getElem?_drop]; exact hby _ (by omega))).mono ?_
  rintro e w3 ⟨rfl, a3, c3, k3, f3, l3, m3, r3, b3, e3⟩
  have K3 : Kept (fun g => g = r ∨ w.heap.size ≤ g) w w3 := by rw [e3]; exact K2.trans (Kept.setCell _ _ _ _ (Or.inl rfl))
  have x3 : w3.heap[w.heap.size]? = some (.cells #[.int .i64 0, .int .i64 0, .int .i64 0] 40 (0, 0)) := by rw [e3, setCell_block (by omega)]; exact x2
  rw [List.drop_drop]
  obtain ⟨t0, t1, t2⟩ := three_cells x3
  have z0 : w3.frozen? ⟨w.heap.size, 0, none⟩ = false := by simp [World.frozen?, x3]
  have z1 : w3.frozen? ⟨w.heap.size, 1, none⟩ = false := by simp [World.frozen?, x3]
  have z2 : w3.frozen? ⟨w.heap.size, 2, none⟩ = false := by simp [World.frozen?, x3]
  clear k2 f2 b2 x2 e3 r1 r2 r3
  go_wp2
  refine bodyPost_ret (v := .agg #[.int .i64 (hS xs), .int .i64 (hP xs), .int .i64 (hQ xs)]) (by simp [results, Tryd.results38, go_sem, t0, t1, t2, hS, hP, hQ]) rfl ?_
  refine ⟨rfl, kept_new ?_⟩
  exact ((K3.trans (Kept.setCell _ _ _ _ (Or.inr (Nat.le_refl _)))).trans (Kept.setCell _ _ _ _ (Or.inr (Nat.le_refl _)))).trans (Kept.setCell _ _ _ _ (Or.inr (Nat.le_refl _)))

set_option maxHeartbeats 1000000 in
theorem readHeader_short (r : Nat) (a : Option Addr) (n c : Nat) (xs : List Int) (w0 w : World) (ha : IRow .u8 w0 a n xs) (hb : Below w0.heap.size w0 w) (hr : w0.heap.size ≤ r) (h0 : w.cell? ⟨r, 0, none⟩ = some (.slice a n c)) (hf : w.frozen? ⟨r, 0, none⟩ = false) (hk : n < 12) (hc : n ≤ c) (hm : c ≤ 9223372036854775807) (hby : ∀ i, i < n → 0 ≤ xs[i]?.getD 0 ∧ xs[i]?.getD 0 ≤ 255) :
    Calls Tryd.prog 38 #[.pointer (some ⟨r, 0, none⟩)] w fun e w' => e = .panicked outV ∧ Kept (fun g => g = r) w w' := by
  have hrw : r < w.heap.size := World.block_lt_of_cell? w _ h0
  have hbA : ∀ o, Below w0.heap.size w0 (w.alloc o) := fun o => hb.alloc hb.size _
  have h0A : ∀ o, (w.alloc o).cell? ⟨r, 0, none⟩ = some (.slice a n c) := fun o => (World.cell?_alloc_old w o _ (by simp; omega)).trans h0
  have hfA : ∀ o, (w.alloc o).frozen? ⟨r, 0, none⟩ = false := fun o => (World.frozen?_alloc_old w o _ (by simp; omega)).trans hf
  by_cases h8 : n < 8
  · go_enter Tryd.func38, Tryd.ntmps38
    go_wp2_with fail
    refine (number_short r a n c 8 _ (h0A _) h8).mono ?_
    rintro e w1 ⟨rfl, rfl⟩
    exact ⟨rfl, rfl, Kept.of_below ((Below.refl _ _).alloc (Nat.le_refl _) _) _⟩
  by_cases h10 : n < 10
  · go_enter Tryd.func38, Tryd.ntmps38
    go_wp2_with fail
    refine (number_long r a n c 8 xs w0 _ ha (hbA _) hr (h0A _) (hfA _) (by omega) (by omega) (by omega) hc hm hby).mono ?_
    rintro e w1 ⟨rfl, a1, c1, k1, f1, l1, m1, r1, b1, e1⟩
    have K1 : Kept (fun g => g = r ∨ w.heap.size ≤ g) w w1 := by rw [e1]; exact (Kept.of_below ((Below.refl _ _).alloc (Nat.le_refl _) _) _).trans (Kept.setCell _ _ _ _ (Or.inl rfl))
    clear h0 hf hb hbA h0A hfA e1
    go_wp2_with fail
    refine (number_short r a1 (n - 8) c1 2 w1 k1 (by omega)).mono ?_
    rintro e w2 ⟨rfl, rfl⟩
    exact ⟨rfl, rfl, kept_new K1⟩
  · go_enter Tryd.func38, Tryd.ntmps38
    go_wp2_with fail
    refine (number_long r a n c 8 xs w0 _ ha (hbA _) hr (h0A _) (hfA _) (by omega) (by omega) (by omega) hc hm hby).mono ?_
    rintro e w1 ⟨rfl, a1, c1, k1, f1, l1, m1, r1, b1, e1⟩
    have K1 : Kept (fun g => g = r ∨ w.heap.size ≤ g) w w1 := by rw [e1]; exact (Kept.of_below ((Below.refl _ _).alloc (Nat.le_refl _) _) _).trans (Kept.setCell _ _ _ _ (Or.inl rfl))
    clear h0 hf hb hbA h0A hfA e1
    go_wp2_with fail
    refine (number_long r a1 (n - 8) c1 2 (xs.drop 8) w0 w1 r1 b1 hr k1 f1 (by omega) (by omega) (by omega) l1 (by omega) (fun i hi => by rw [List.getElem?_drop]; exact hby _ (by omega))).mono ?_
    rintro e w2 ⟨rfl, a2, c2, k2, f2, l2, m2, r2, b2, e2⟩
    have K2 : Kept (fun g => g = r ∨ w.heap.size ≤ g) w w2 := by rw [e2]; exact K1.trans (Kept.setCell _ _ _ _ (Or.inl rfl))
    clear k1 f1 b1 e2
    go_wp2_with fail
    refine (number_short r a2 (n - 8 - 2) c2 2 w2 k2 (by omega)).mono ?_
    rintro e w3 ⟨rfl, rfl⟩
    exact ⟨rfl, rfl, kept_new K2⟩
end Go.Proofs.YtkkammbfomiofaaDoor
