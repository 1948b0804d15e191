/-
  The specification's numerals.
-/
import Derived.Test.YtkkammbfomiofadDoorFai
namespace Go.Proofs.YtkkammbfomiofadDoor
open Go.RowKit
set_option linter.unusedSimpArgs false
set_option linter.unusedVariables false

theorem decDigits_step {u : Nat} (h : 10 ≤ u) : Lib.decDigits u = Lib.decDigits (u / 10) ++ [UInt8.ofNat (48 + u % 10)] := by
  rw [Lib.decDigits, dif_neg (by omega)]
theorem itoa_pos (u : Nat) : Lib.itoa (u : Int) = Lib.decDigits u := Lib.itoa_nonneg u
theorem itoa_negs {u : Nat} (h : 1 ≤ u) : Lib.itoa (-(u : Int)) = 45 :: Lib.decDigits u := Lib.itoa_neg u h
theorem conv_one {W W' : World} {g : Nat} (b : UInt8) {X : Int} (hX : X = (b.toNat : Int)) (hg : W.heap[g]? = some (.cells #[.int .u8 X] 5 (0, 0))) (hb : Below W.heap.size W W') : (convert 44 9 (.slice (some ⟨g, 0, none⟩) 1 1)).run Tryd.prog W' = .ok (.string ⟨#[b]⟩) W' := by
  have hg' := (hb.block g (Array.getElem?_eq_some_iff.1 hg).1).trans hg
  have := run_convert_bytes_back (P := Tryd.prog) W' 44 9 5 ⟨g, 0, none⟩ 1 [b] Tryd.underlying44 Tryd.underlying5 Tryd.underlying9 (fun j hj => by
    obtain rfl : j = 0 := by simpa using hj
    rw [show (⟨g, 0, none⟩ : Addr).add 0 = ⟨g, 0, none⟩ from rfl, cell_of_row W' g 0 _ _ _ hg', hX]
    rfl)
  simpa using this
theorem size_list (l : List UInt8) : (⟨l.toArray⟩ : ByteArray).size = l.length := by simp [ByteArray.size]
theorem byte_of (X : Int) (h0 : 0 ≤ X) (h1 : X ≤ 255) : ∃ b : UInt8, X = (b.toNat : Int) ∧ b = UInt8.ofNat X.toNat := ⟨UInt8.ofNat X.toNat, by simp; omega, rfl⟩

set_option maxHeartbeats 6400000 in
set_option maxRecDepth 100000 in
theorem dec_any : ∀ (m : Nat) (v : Int), 2 * v.natAbs + (if v < 0 then 1 else 0) < m → -9223372036854775808 ≤ v → v ≤ 9223372036854775807 → ∀ w : World,
    Calls Tryd.prog 21 #[.int .i64 v] w fun e w' => e = .returned (.string ⟨(Lib.itoa v).toArray⟩) ∧ Below w.heap.size w w' := by
  intro m
  induction m with
  | zero => intro v h; omega
  | succ m ih =>
    intro v hv hv0 hv1 w
    by_cases hneg : v < 0
    · obtain ⟨u, rfl⟩ : ∃ u : Nat, v = -(u : Int) := ⟨v.natAbs, by omega⟩
      by_cases h10 : u < 10
      · have HC := Lib.hid (fun w => ih ((u : Nat) : Int) (by rw [if_neg (by omega)]; rw [if_pos hneg] at hv; omega) (by omega) (by omega) w)
        have HI := Lib.hid (show Lib.itoa (-(u : Int)) = 45 :: Lib.itoa (u : Int) from by rw [itoa_negs (by omega), itoa_pos])
        have hlen : (⟨(Lib.itoa (u : Int)).toArray⟩ : ByteArray).size ≤ 21 := by rw [size_list]; exact Lib.itoa_length_le (u : Int) (by omega) (by omega)
        clear ih hv
        generalize hL : (⟨(Lib.itoa (u : Int)).toArray⟩ : ByteArray) = L at *
        have HE : Hid ((⟨#[45]⟩ : ByteArray) ++ L = ⟨(Lib.itoa (-(u : Int))).toArray⟩) := by show _ = _; rw [HI.out, ← hL, ByteArray.mk_append_mk]; simp
        clear hL
        have h45 : (⟨#[45]⟩ : ByteArray).size = 1 := rfl
        have hsum : ¬ 9223372036854775807 < 1 + L.size := by omega
        go_enter Tryd.func21, Tryd.ntmps21
        go_wp2_with fail
        refine (HC.out _).mono ?_
        rintro e w1 ⟨rfl, hb1⟩
        have HB1 : Hid (Below w.heap.size w w1) := hb1
        clear hb1
        go_wp2
        go_ret
        exact ⟨by rw [HE.out]; rfl, HB1.out⟩
      · have HI := Lib.hid (show Lib.itoa (-(u : Int)) = Lib.itoa (-((u / 10 : Nat) : Int)) ++ [UInt8.ofNat (48 + u % 10)] from by rw [itoa_negs (by omega), decDigits_step (by omega), itoa_negs (by omega)]; rfl)
        have HC := Lib.hid (fun w => ih (-((u / 10 : Nat) : Int)) (by rw [if_pos (by omega)]; rw [if_pos hneg] at hv; omega) (by omega) (by omega) w)
        have hq : (-(u : Int)).tdiv 10 = -((u / 10 : Nat) : Int) := by rw [Int.neg_tdiv, Int.tdiv_eq_ediv_of_nonneg (by omega)]; rfl
        have hr : (-(u : Int)).tmod 10 = -((u % 10 : Int)) := by rw [Int.neg_tmod, Int.tmod_eq_emod_of_nonneg (by omega)]
        obtain ⟨b, hb, hb'⟩ := byte_of (48 + (u % 10 : Int)) (by omega) (by omega)
        have HBB := Lib.hid hb'
        have hc := fun W : World => conv_one b hb (heap_alloc_new W (.cells #[.int .u8 (48 + (u % 10 : Int))] 5)) (Below.refl _ _)
        have hc2 := fun (W W' : World) (h : Below (W.alloc (.cells #[.int .u8 (48 + (u % 10 : Int))] 5)).heap.size (W.alloc (.cells #[.int .u8 (48 + (u % 10 : Int))] 5)) W') => conv_one b hb (heap_alloc_new W (.cells #[.int .u8 (48 + (u % 10 : Int))] 5)) h
        have hlen : (⟨(Lib.itoa (-((u / 10 : Nat) : Int))).toArray⟩ : ByteArray).size ≤ 21 := by rw [size_list]; exact Lib.itoa_length_le (-((u / 10 : Nat) : Int)) (by omega) (by omega)
        have hlen1 : (⟨#[b]⟩ : ByteArray).size = 1 := rfl
        clear hb hb' hv ih
        generalize hL : (⟨(Lib.itoa (-((u / 10 : Nat) : Int))).toArray⟩ : ByteArray) = L at *
        have HE : Hid (L ++ ⟨#[b]⟩ = ⟨(Lib.itoa (-(u : Int))).toArray⟩) := by show _ = _; rw [HI.out, HBB.out, ← hL, ByteArray.mk_append_mk]; rfl
        clear hL
        have hsum : ¬ 9223372036854775807 < L.size + 1 := by omega
        go_enter Tryd.func21, Tryd.ntmps21
        go_wp2_with fail
        refine wp_region_any (by kernel_rfl) ?_
        change wpAny _ _ _ _ _ _ _ (World.drew _)
        refine wpAny_take (i := 0) (v := .int .i64 (-(u : Int))) rfl (by kernel_rfl) (by kernel_rfl) (by kernel_rfl) (fun _ _ _ h => h) (Or.inl ⟨rfl, fun W => by go_simp⟩) ?_
        refine wpAny_take (i := 1) (v := .int .i64 (-((u / 10 : Nat) : Int))) rfl (by kernel_rfl) (by kernel_rfl) (by kernel_rfl) (fun _ _ _ h => h) (Or.inl ⟨rfl, fun W => by go_simp; try first | omega | (simp [hq]; done) | (simp [IntKind.wrap, IntKind.signed, IntKind.bits]; omega)⟩) ?_
        refine wpAny_take (i := 3) (v := .int .i64 (-(u : Int))) rfl (by kernel_rfl) (by kernel_rfl) (by kernel_rfl) (fun _ _ _ h => h) (Or.inl ⟨rfl, fun W => by go_simp⟩) ?_
        refine wpAny_take (i := 4) (v := .int .i64 (-(u % 10 : Int))) rfl (by kernel_rfl) (by kernel_rfl) (by kernel_rfl) (fun _ _ _ h => h) (Or.inl ⟨rfl, fun W => by go_simp; try first | omega | (simp [hr]; done) | (simp [IntKind.wrap, IntKind.signed, IntKind.bits]; omega)⟩) ?_
        refine wpAny_take (i := 5) (v := .int .i64 (48 + (u % 10 : Int))) rfl (by kernel_rfl) (by kernel_rfl) (by kernel_rfl) (fun _ _ _ h => h) (Or.inl ⟨rfl, fun W => by go_simp; try first | omega | (simp [IntKind.wrap, IntKind.signed, IntKind.bits]; omega)⟩) ?_
        refine wpAny_take (i := 6) (v := .int .u8 (48 + (u % 10 : Int))) rfl (by kernel_rfl) (by kernel_rfl) (by kernel_rfl) (fun _ _ _ h => h) (Or.inl ⟨rfl, fun W => by go_simp; try first | omega | (simp [IntKind.wrap, IntKind.signed, IntKind.bits]; omega)⟩) ?_
        refine wpAny_ready (rs := [2, 7]) (by kernel_rfl) (by simp) ?_
        refine AllReady.cons rfl (fun K hK => ?_) (AllReady.cons rfl (fun K hK => ?_) AllReady.nil)
        · go_simp
          refine (HC.out _).mono ?_
          rintro e w1 ⟨rfl, hb1⟩
          have HB1 : Hid (Below w.heap.size w w1) := (Below.refl w.heap.size w).drew.trans (show Below w.heap.size w.drew w1 from hb1)
          clear hb1
          go_simp
          refine hK _ _ ?_
          clear hK K
          refine wpAny_ready (rs := [7]) (by kernel_rfl) (by simp) ?_
          refine AllReady.cons rfl (fun K hK => ?_) AllReady.nil
          go_simp
          refine hK _ _ ?_
          clear hK K
          have hc1 := hc w1
          refine wpAny_ready (rs := [8]) (by kernel_rfl) (by simp) ?_
          refine AllReady.cons rfl (fun K hK => ?_) AllReady.nil
          go_simp
          refine hK _ _ ?_
          clear hK K
          refine wpAny_ready (rs := [9]) (by kernel_rfl) (by simp) ?_
          refine AllReady.cons rfl (fun K hK => ?_) AllReady.nil
          go_simp
          refine hK _ _ ?_
          clear hK K
          refine wpAny_ready (rs := [10]) (by kernel_rfl) (by simp) ?_
          refine AllReady.cons rfl (fun K hK => ?_) AllReady.nil
          go_simp
          refine hK _ _ ?_
          clear hK K
          refine wpAny_done (by kernel_rfl) ?_ _
          go_wp2
          go_ret
          exact ⟨by rw [HE.out]; rfl, HB1.out.alloc HB1.out.size _⟩
        · go_simp
          refine hK _ _ ?_
          clear hK K
          refine wpAny_ready (rs := [2, 8]) (by kernel_rfl) (by simp) ?_
          refine AllReady.cons rfl (fun K hK => ?_) (AllReady.cons rfl (fun K hK => ?_) AllReady.nil)
          · go_simp
            refine (HC.out _).mono ?_
            rintro e w1 ⟨rfl, hb1⟩
            have HB1 : Hid (Below w.heap.size w w1) := ((Below.refl w.heap.size w).alloc (Nat.le_refl _) (.cells #[.int .u8 (48 + (u % 10 : Int))] 5)).drew.trans (hb1.mono (by simp))
            have hc1 := hc2 w w1 (((Below.refl _ (w.alloc (.cells #[.int .u8 (48 + (u % 10 : Int))] 5))).drew).trans hb1)
            clear hb1
            go_simp
            refine hK _ _ ?_
            clear hK K
            refine wpAny_ready (rs := [8]) (by kernel_rfl) (by simp) ?_
            refine AllReady.cons rfl (fun K hK => ?_) AllReady.nil
            go_simp
            refine hK _ _ ?_
            clear hK K
            refine wpAny_ready (rs := [9]) (by kernel_rfl) (by simp) ?_
            refine AllReady.cons rfl (fun K hK => ?_) AllReady.nil
            go_simp
            refine hK _ _ ?_
            clear hK K
            refine wpAny_ready (rs := [10]) (by kernel_rfl) (by simp) ?_
            refine AllReady.cons rfl (fun K hK => ?_) AllReady.nil
            go_simp
            refine hK _ _ ?_
            clear hK K
            refine wpAny_done (by kernel_rfl) ?_ _
            go_wp2
            go_ret
            exact ⟨by rw [HE.out]; rfl, HB1.out⟩
          · have hc1 := hc2 w (w.alloc (.cells #[.int .u8 (48 + (u % 10 : Int))] 5)).drew ((Below.refl _ _).drew)
            go_simp
            refine hK _ _ ?_
            clear hK K
            refine wpAny_ready (rs := [2]) (by kernel_rfl) (by simp) ?_
            refine AllReady.cons rfl (fun K hK => ?_) AllReady.nil
            go_simp
            refine (HC.out _).mono ?_
            rintro e w1 ⟨rfl, hb1⟩
            have HB1 : Hid (Below w.heap.size w w1) := ((Below.refl w.heap.size w).alloc (Nat.le_refl _) (.cells #[.int .u8 (48 + (u % 10 : Int))] 5)).drew.trans (hb1.mono (by simp))
            clear hb1
            go_simp
            refine hK _ _ ?_
            clear hK K
            refine wpAny_ready (rs := [9]) (by kernel_rfl) (by simp) ?_
            refine AllReady.cons rfl (fun K hK => ?_) AllReady.nil
            go_simp
            refine hK _ _ ?_
            clear hK K
            refine wpAny_ready (rs := [10]) (by kernel_rfl) (by simp) ?_
            refine AllReady.cons rfl (fun K hK => ?_) AllReady.nil
            go_simp
            refine hK _ _ ?_
            clear hK K
            refine wpAny_done (by kernel_rfl) ?_ _
            go_wp2
            go_ret
            exact ⟨by rw [HE.out]; rfl, HB1.out⟩
    · obtain ⟨u, rfl⟩ : ∃ u : Nat, v = u := ⟨v.toNat, by omega⟩
      by_cases h10 : u < 10
      · have HI := Lib.hid (show Lib.itoa (u : Int) = [UInt8.ofNat (48 + u)] from by rw [itoa_pos, Lib.decDigits_one h10])
        obtain ⟨b, hb, hb'⟩ := byte_of (48 + u) (by omega) (by omega)
        have HBB := Lib.hid hb'
        have hc := conv_one b hb (heap_alloc_new w (.cells #[.int .u8 (48 + u)] 5)) (Below.refl _ _)
        clear hb hb'
        go_enter Tryd.func21, Tryd.ntmps21
        go_wp2
        go_ret
        refine ⟨?_, (Below.refl _ _).alloc (Nat.le_refl _) _⟩
        rw [HI.out, HBB.out, show ((48 : Int) + (u : Int)).toNat = 48 + u from by omega]
        rfl
      · have HI := Lib.hid (show Lib.itoa (u : Int) = Lib.itoa ((u / 10 : Nat) : Int) ++ [UInt8.ofNat (48 + u % 10)] from by rw [itoa_pos, decDigits_step (by omega), itoa_pos])
        have HC := Lib.hid (fun w => ih ((u / 10 : Nat) : Int) (by rw [if_neg (by omega)] at hv ⊢; omega) (by omega) (by omega) w)
        obtain ⟨b, hb, hb'⟩ := byte_of (48 + (u % 10 : Int)) (by omega) (by omega)
        have HBB := Lib.hid hb'
        have hc := fun W : World => conv_one b hb (heap_alloc_new W (.cells #[.int .u8 (48 + (u % 10 : Int))] 5)) (Below.refl _ _)
        have hc2 := fun (W W' : World) (h : Below (W.alloc (.cells #[.int .u8 (48 + (u % 10 : Int))] 5)).heap.size (W.alloc (.cells #[.int .u8 (48 + (u % 10 : Int))] 5)) W') => conv_one b hb (heap_alloc_new W (.cells #[.int .u8 (48 + (u % 10 : Int))] 5)) h
        have hlen : (⟨(Lib.itoa ((u / 10 : Nat) : Int)).toArray⟩ : ByteArray).size ≤ 21 := by rw [size_list]; exact Lib.itoa_length_le ((u / 10 : Nat) : Int) (by omega) (by omega)
        have hlen1 : (⟨#[b]⟩ : ByteArray).size = 1 := rfl
        clear hb hb' hv ih
        generalize hL : (⟨(Lib.itoa ((u / 10 : Nat) : Int)).toArray⟩ : ByteArray) = L at *
        have HE : Hid (L ++ ⟨#[b]⟩ = ⟨(Lib.itoa (u : Int)).toArray⟩) := by show _ = _; rw [HI.out, HBB.out, ← hL, ByteArray.mk_append_mk]; rfl
        clear hL
        have hsum : ¬ 9223372036854775807 < L.size + 1 := by omega
        go_enter Tryd.func21, Tryd.ntmps21
        go_wp2_with fail
        refine wp_region_any (by kernel_rfl) ?_
        change wpAny _ _ _ _ _ _ _ (World.drew _)
        refine wpAny_take (i := 0) (v := .int .i64 (u : Int)) rfl (by kernel_rfl) (by kernel_rfl) (by kernel_rfl) (fun _ _ _ h => h) (Or.inl ⟨rfl, fun W => by go_simp⟩) ?_
        refine wpAny_take (i := 1) (v := .int .i64 ((u / 10 : Nat) : Int)) rfl (by kernel_rfl) (by kernel_rfl) (by kernel_rfl) (fun _ _ _ h => h) (Or.inl ⟨rfl, fun W => by go_simp; try first | omega | (simp [IntKind.wrap, IntKind.signed, IntKind.bits]; omega)⟩) ?_
        refine wpAny_take (i := 3) (v := .int .i64 (u : Int)) rfl (by kernel_rfl) (by kernel_rfl) (by kernel_rfl) (fun _ _ _ h => h) (Or.inl ⟨rfl, fun W => by go_simp⟩) ?_
        refine wpAny_take (i := 4) (v := .int .i64 (u % 10 : Int)) rfl (by kernel_rfl) (by kernel_rfl) (by kernel_rfl) (fun _ _ _ h => h) (Or.inl ⟨rfl, fun W => by go_simp; try exact Int.tmod_eq_emod_of_nonneg (by omega)⟩) ?_
        refine wpAny_take (i := 5) (v := .int .i64 (48 + (u % 10 : Int))) rfl (by kernel_rfl) (by kernel_rfl) (by kernel_rfl) (fun _ _ _ h => h) (Or.inl ⟨rfl, fun W => by go_simp; try first | omega | (simp [IntKind.wrap, IntKind.signed, IntKind.bits]; omega)⟩) ?_
        refine wpAny_take (i := 6) (v := .int .u8 (48 + (u % 10 : Int))) rfl (by kernel_rfl) (by kernel_rfl) (by kernel_rfl) (fun _ _ _ h => h) (Or.inl ⟨rfl, fun W => by go_simp; try first | omega | (simp [IntKind.wrap, IntKind.signed, IntKind.bits]; omega)⟩) ?_
        refine wpAny_ready (rs := [2, 7]) (by kernel_rfl) (by simp) ?_
        refine AllReady.cons rfl (fun K hK => ?_) (AllReady.cons rfl (fun K hK => ?_) AllReady.nil)
        · go_simp
          refine (HC.out _).mono ?_
          rintro e w1 ⟨rfl, hb1⟩
          have HB1 : Hid (Below w.heap.size w w1) := (Below.refl w.heap.size w).drew.trans (show Below w.heap.size w.drew w1 from hb1)
          clear hb1
          go_simp
          refine hK _ _ ?_
          clear hK K
          refine wpAny_ready (rs := [7]) (by kernel_rfl) (by simp) ?_
          refine AllReady.cons rfl (fun K hK => ?_) AllReady.nil
          go_simp
          refine hK _ _ ?_
          clear hK K
          have hc1 := hc w1
          refine wpAny_ready (rs := [8]) (by kernel_rfl) (by simp) ?_
          refine AllReady.cons rfl (fun K hK => ?_) AllReady.nil
          go_simp
          refine hK _ _ ?_
          clear hK K
          refine wpAny_ready (rs := [9]) (by kernel_rfl) (by simp) ?_
          refine AllReady.cons rfl (fun K hK => ?_) AllReady.nil
          go_simp
          refine hK _ _ ?_
          clear hK K
          refine wpAny_ready (rs := [10]) (by kernel_rfl) (by simp) ?_
          refine AllReady.cons rfl (fun K hK => ?_) AllReady.nil
          go_simp
          refine hK _ _ ?_
          clear hK K
          refine wpAny_done (by kernel_rfl) ?_ _
          go_wp2
          go_ret
          exact ⟨by rw [HE.out]; rfl, HB1.out.alloc HB1.out.size _⟩
        · go_simp
          refine hK _ _ ?_
          clear hK K
          refine wpAny_ready (rs := [2, 8]) (by kernel_rfl) (by simp) ?_
          refine AllReady.cons rfl (fun K hK => ?_) (AllReady.cons rfl (fun K hK => ?_) AllReady.nil)
          · go_simp
            refine (HC.out _).mono ?_
            rintro e w1 ⟨rfl, hb1⟩
            have HB1 : Hid (Below w.heap.size w w1) := ((Below.refl w.heap.size w).alloc (Nat.le_refl _) (.cells #[.int .u8 (48 + (u % 10 : Int))] 5)).drew.trans (hb1.mono (by simp))
            have hc1 := hc2 w w1 (((Below.refl _ (w.alloc (.cells #[.int .u8 (48 + (u % 10 : Int))] 5))).drew).trans hb1)
            clear hb1
            go_simp
            refine hK _ _ ?_
            clear hK K
            refine wpAny_ready (rs := [8]) (by kernel_rfl) (by simp) ?_
            refine AllReady.cons rfl (fun K hK => ?_) AllReady.nil
            go_simp
            refine hK _ _ ?_
            clear hK K
            refine wpAny_ready (rs := [9]) (by kernel_rfl) (by simp) ?_
            refine AllReady.cons rfl (fun K hK => ?_) AllReady.nil
            go_simp
            refine hK _ _ ?_
            clear hK K
            refine wpAny_ready (rs := [10]) (by kernel_rfl) (by simp) ?_
            refine AllReady.cons rfl (fun K hK => ?_) AllReady.nil
            go_simp
            refine hK _ _ ?_
            clear hK K
            refine wpAny_done (by kernel_rfl) ?_ _
            go_wp2
            go_ret
            exact ⟨by rw [HE.out]; rfl, HB1.out⟩
          · have hc1 := hc2 w (w.alloc (.cells #[.int .u8 (48 + (u % 10 : Int))] 5)).drew ((Below.refl _ _).drew)
            go_simp
            refine hK _ _ ?_
            clear hK K
            refine wpAny_ready (rs := [2]) (by kernel_rfl) (by simp) ?_
            refine AllReady.cons rfl (fun K hK => ?_) AllReady.nil
            go_simp
            refine (HC.out _).mono ?_
            rintro e w1 ⟨rfl, hb1⟩
            have HB1 : Hid (Below w.heap.size w w1) := ((Below.refl w.heap.size w).alloc (Nat.le_refl _) (.cells #[.int .u8 (48 + (u % 10 : Int))] 5)).drew.trans (hb1.mono (by simp))
            clear hb1
            go_simp
            refine hK _ _ ?_
            clear hK K
            refine wpAny_ready (rs := [9]) (by kernel_rfl) (by simp) ?_
            refine AllReady.cons rfl (fun K hK => ?_) AllReady.nil
            go_simp
            refine hK _ _ ?_
            clear hK K
            refine wpAny_ready (rs := [10]) (by kernel_rfl) (by simp) ?_
            refine AllReady.cons rfl (fun K hK => ?_) AllReady.nil
            go_simp
            refine hK _ _ ?_
            clear hK K
            refine wpAny_done (by kernel_rfl) ?_ _
            go_wp2
            go_ret
            exact ⟨by rw [HE.out]; rfl, HB1.out⟩
end Go.Proofs.YtkkammbfomiofadDoor
