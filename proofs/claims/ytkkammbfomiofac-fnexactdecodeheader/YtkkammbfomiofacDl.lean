/-
  FnExactDecodeHeader: the law's walk.
-/
import Derived.Test.YtkkammbfomiofacDt
namespace Go.Proofs.Ytkkammbfomiofac
open Go.RowKit
set_option linter.unusedSimpArgs false
set_option linter.unusedVariables false

theorem decodeHeader_impl (a : Option Addr) (n c : Nat) (xs : List Int) (w : World) (ha : IRow .u8 w a n xs) (hx : Byt xs) (hc : n ≤ c) (hm : c ≤ 9223372036854775807) :
    Calls Try.prog 20 #[.slice a n c] w fun e w' => e = .returned (.agg (decV xs)) ∧ Below w.heap.size w w' := by
  by_cases h : n < 12
  · have e := decV_no (decB_len (xs := xs) (by rw [ha.1]; omega))
    rw [e]
    exact decodeHeader_short a n c xs w ha hx h hc hm
  · exact decodeHeader_long a n c xs w ha hx (by omega) hc hm
theorem decodeHeader_spec (a : Option Addr) (n c : Nat) (xs : List Int) (w : World) (ha : IRow .u8 w a n xs) (hx : Byt xs) (hc : n ≤ c) (hm : c ≤ 9223372036854775807) :
    Calls Try.prog 18 #[.slice a n c] w fun e w' => e = .returned (.agg (decV xs)) ∧ Below w.heap.size w w' := by
  by_cases h : n = 64
  · subst h
    rcases ha.2 with h0 | ⟨g, off, rfl, hcell⟩
    · omega
    by_cases hb : (127 : Int) < xs[0]?.getD 0
    · have hs := numI_big hx ha.1 hb
      have e := decV_no (decB_bad (xs := xs) (by
        cases hv : hdrB (hS xs) (hP xs) (hQ xs)
        · rfl
        · have := (hdr_bounds hv).1.1; omega))
      rw [e]
      have c0 := hcell 0 (by omega)
      rw [Nat.add_zero] at c0
      exact spec_big g off c _ w c0 hb
    · exact spec_go g off c xs w ha hx (by omega) hc hm
  · have e := decV_no (decB_len (xs := xs) (by rw [ha.1]; exact h))
    rw [e]
    exact spec_len a n c w h
theorem decV_shape (xs : List Int) : ∃ (b : Bool) (s p q : Int), decV xs = #[.bool b, .int .i64 s, .int .i64 p, .int .i64 q] := by
  cases h : decB xs
  · exact ⟨_, _, _, _, decV_no h⟩
  · exact ⟨_, _, _, _, decV_yes h⟩

set_option maxHeartbeats 1000000 in
theorem eqHeader_same (s p q : Int) (w : World) :
    Calls Try.prog 58 #[.agg #[.int .i64 s, .int .i64 p, .int .i64 q], .agg #[.int .i64 s, .int .i64 p, .int .i64 q]] w fun e w' => e = .returned (.bool true) ∧ Below w.heap.size w w' := by
  have h1 : (s != s) = false := by simp
  have h2 : (p != p) = false := by simp
  have h3 : (q != q) = false := by simp
  go_enter Try.func58, Try.ntmps58
  go_wp2
  go_ret
  exact ⟨rfl, ((Below.refl _ _).alloc (Nat.le_refl _) _).alloc (by simp) _⟩
set_option maxHeartbeats 1000000 in
theorem eqHeaderResult_same (b : Bool) (s p q : Int) (w : World) :
    Calls Try.prog 21 #[.agg #[.bool b, .int .i64 s, .int .i64 p, .int .i64 q], .agg #[.bool b, .int .i64 s, .int .i64 p, .int .i64 q]] w fun e w' => e = .returned (.bool true) ∧ Below w.heap.size w w' := by
  have h1 : (b != b) = false := by simp
  go_enter Try.func21, Try.ntmps21
  go_wp2_with fail
  refine (eqHeader_same s p q _).mono ?_
  rintro e w1 ⟨rfl, hb⟩
  have hb1 : Below w.heap.size w w1 := (((Below.refl _ _).alloc (Nat.le_refl _) _).alloc (by simp) _).trans (hb.mono (by simp; omega))
  clear hb
  go_wp2
  go_ret
  exact ⟨rfl, hb1⟩

set_option maxHeartbeats 4000000 in
theorem law_decodeHeader (a : Option Addr) (n ca : Nat) (xs : List Int) (w : World) (ha : IRow .u8 w a n xs) (hx : Byt xs) (hn : (n : Int) ≤ 9223372036854775807) :
    Calls Try.prog 4 #[.slice a n ca] w fun e w' => e = .returned (.bool true) ∧ Below w.heap.size w w' := by
  by_cases hbig : 1048576 < n
  · go_enter Try.func4, Try.ntmps4
    go_wp2
    go_ret
    exact ⟨rfl, Below.refl _ _⟩
  have hn2 : n ≤ 2097152 := by omega
  obtain ⟨b, s, p, q, hV⟩ := decV_shape xs
  have HV : Hid (decV xs = #[.bool b, .int .i64 s, .int .i64 p, .int .i64 q]) := hV
  have HA : Hid (IRow .u8 w a n xs) := ha
  have HX : Hid (Byt xs) := hx
  clear hV ha hx
  go_enter Try.func4, Try.ntmps4
  go_wp2_with fail
  refine (toByteS_any _ _ _ xs _ HA.out hn2).mono ?_
  rintro e w1 ⟨rfl, r1, hb1, z1⟩
  have r1' := r1.read
  clear r1
  go_wp2_with fail
  refine (decodeHeader_spec _ _ _ xs _ r1' HX.out (Nat.le_refl _) (by omega)).mono ?_
  rintro e w2 ⟨rfl, hb2⟩
  rw [HV.out]
  have HB2 : Hid (Below w.heap.size w w2) := hb1.trans (hb2.mono (by omega))
  have z2 := HB2.out.size
  have hA2 : ∀ o, IRow .u8 (w2.alloc o) a n xs := fun o => HA.out.below (HB2.out.alloc z2 o)
  clear hb1 hb2 r1' z1
  go_wp2_with fail
  refine (toByteS_any _ _ _ xs _ (hA2 _) hn2).mono ?_
  rintro e w3 ⟨rfl, r3, hb3, z3⟩
  have kw := (hb3.block w2.heap.size (by simp)).trans (heap_alloc_new w2 _)
  have HB3 : Hid (Below w.heap.size w w3) := (HB2.out.alloc z2 _).trans (hb3.mono (by simp; omega))
  have es : ∀ o, (w2.alloc o).heap.size = w2.heap.size + 1 := fun _ => by simp
  rw [es] at r3 z3 ⊢
  clear hb3 hA2 es
  go_wp2_with fail
  refine (decodeHeader_impl _ _ _ xs _ r3.read HX.out (Nat.le_refl _) (by omega)).mono ?_
  rintro e w4 ⟨rfl, hb4⟩
  rw [HV.out]
  have kw4 := (hb4.block w2.heap.size (by omega)).trans kw
  have HB4 : Hid (Below w.heap.size w w4) := HB3.out.trans (hb4.mono HB3.out.size)
  have z4 := hb4.size
  have r4 := r3.below hb4
  obtain ⟨⟨t0, t1, t2, t3⟩, _, _, _, _⟩ := cells4 kw4
  have kx : ∀ o, (w4.alloc o).heap[w2.heap.size]? = some (.cells #[.bool b, .int .i64 s, .int .i64 p, .int .i64 q] 32 (0, 0)) := fun o => (heap_alloc_old w4 o (by omega)).trans kw4
  have x0 : ∀ o, (w4.alloc o).cell? ⟨w2.heap.size, 0, none⟩ = some (.bool b) := fun o => (cells4 (kx o)).1.1
  have x1 : ∀ o, (w4.alloc o).cell? ⟨w2.heap.size, 1, none⟩ = some (.int .i64 s) := fun o => (cells4 (kx o)).1.2.1
  have x2 : ∀ o, (w4.alloc o).cell? ⟨w2.heap.size, 2, none⟩ = some (.int .i64 p) := fun o => (cells4 (kx o)).1.2.2.1
  have x3 : ∀ o, (w4.alloc o).cell? ⟨w2.heap.size, 3, none⟩ = some (.int .i64 q) := fun o => (cells4 (kx o)).1.2.2.2
  clear hb4 kw r3 kx kw4
  go_wp2_with fail
  refine (eqHeaderResult_same b s p q _).mono ?_
  rintro e w5 ⟨rfl, hb5⟩
  have hb5' : Below w4.heap.size w4 w5 := ((Below.refl _ _).alloc (Nat.le_refl _) _).trans (hb5.mono (by simp))
  have HB5 : Hid (Below w.heap.size w w5) := HB4.out.trans (hb5'.mono HB4.out.size)
  have r5 := r4.below hb5'
  clear hb5 hb5' t0 t1 t2 t3 x0 x1 x2 x3 r4
  go_wp2_with fail
  refine (toByteS_any _ _ _ xs _ (HA.out.below HB5.out) hn2).mono ?_
  rintro e w6 ⟨rfl, r6, hb6, z6⟩
  have HB6 : Hid (Below w.heap.size w w6) := HB5.out.trans (hb6.mono HB5.out.size)
  have r5' := r5.below hb6
  clear hb6 r5
  go_wp2_with fail
  refine (eqByteS_any _ _ _ _ _ _ xs xs _ r5'.read r6.read hn2 hn2).mono ?_
  rintro e w7 ⟨rfl, d7, rfl⟩
  rw [show decide (xs = xs) = true from by simp]
  go_wp2
  go_ret
  exact ⟨rfl, below_drewN HB6.out _⟩
end Go.Proofs.Ytkkammbfomiofac
