/-
  FnSpace: the law.
-/
import Derived.Test.YtonpdbajoidigaaGreatDoorHa
import Derived.Deep.RegionHeld
namespace Go.Proofs.YtonpdbajoidigaaGreatDoor
open Go.RowKit
set_option linter.unusedSimpArgs false
set_option linter.unusedVariables false

theorem info_call : (Tryz.prog.info? 29).map (fun i => (i.zero, i.size, i.bytes)) = some (some (.agg #[.int .i64 0, .string ⟨#[]⟩, .string ⟨#[]⟩, .int .i64 0]), 4, 48) := by kernel_rfl
theorem decN_size : ∀ i, i < 100 → (decN i).size ≤ 2 := of_decide_eq_true (by kernel_rfl)
section
variable (P : Pl)
theorem Pl.cs_w (k : Nat) (h : k ≤ P.f) : P.cs k = (1, P.nm k, P.dt) := by rw [Pl.cs, if_pos h]
theorem Pl.cs_s : P.cs (P.f + 1) = (6, ⟨#[]⟩, ⟨#[]⟩) := by rw [Pl.cs, if_neg (by omega), if_pos rfl]
theorem Pl.cs_d (d : Nat) (h : d < P.f) : P.cs (P.f + 2 + d) = (4, P.nm d, ⟨#[]⟩) := by
  rw [Pl.cs, if_neg (by omega), if_neg (by omega), if_pos (by omega), show P.f + 2 + d - (P.f + 2) = d by omega]
theorem Pl.cs_g : P.cs (P.f + 2 + P.f) = (1, P.g, P.dt) := by
  rw [Pl.cs, if_neg (by omega), if_neg (by omega), if_neg (by omega), if_pos (by omega)]
theorem Pl.cs_s2 : P.cs (P.f + 2 + P.f + 1) = (6, ⟨#[]⟩, ⟨#[]⟩) := by
  rw [Pl.cs, if_neg (by omega), if_neg (by omega), if_neg (by omega), if_neg (by omega), if_pos (by omega)]
theorem Pl.cs_g2 : P.cs (P.f + 2 + P.f + 1 + 1) = (1, P.g, P.dt) := by
  rw [Pl.cs, if_neg (by omega), if_neg (by omega), if_neg (by omega), if_neg (by omega), if_neg (by omega), if_pos (by omega)]
theorem Pl.cs_r : P.cs (P.f + 2 + P.f + 1 + 1 + 1) = (2, P.g, ⟨#[]⟩) := by
  rw [Pl.cs, if_neg (by omega), if_neg (by omega), if_neg (by omega), if_neg (by omega), if_neg (by omega), if_neg (by omega)]
theorem Pl.an_w (k : Nat) (h : k < P.f) : P.an k = (0, ⟨#[]⟩) := by
  rw [Pl.an, if_neg (by omega), if_neg (by omega), if_neg (by omega), if_neg (by omega)]
theorem Pl.an_f : P.an P.f = (24, ⟨#[]⟩) := by rw [Pl.an, if_pos rfl]
theorem Pl.an_d (k : Nat) (h : P.f < k) (h2 : k < 2 * P.f + 2) : P.an k = (0, ⟨#[]⟩) := by
  rw [Pl.an, if_neg (by omega), if_neg (by omega), if_neg (by omega), if_neg (by omega)]
theorem Pl.an_g : P.an (2 * P.f + 2) = (24, ⟨#[]⟩) := by rw [Pl.an, if_neg (by omega), if_pos rfl]
theorem Pl.an_s : P.an (2 * P.f + 3) = (0, ⟨#[]⟩) := by
  rw [Pl.an, if_neg (by omega), if_neg (by omega), if_neg (by omega), if_neg (by omega)]
theorem Pl.an_0 (h : P.f = 0) : P.an (2 * P.f + 4) = (24, ⟨#[]⟩) := by
  rw [Pl.an, if_neg (by omega), if_neg (by omega), if_pos (by omega), if_pos h]
theorem Pl.an_1 (h : P.f ≠ 0) : P.an (2 * P.f + 4) = (0, ⟨#[]⟩) := by
  rw [Pl.an, if_neg (by omega), if_neg (by omega), if_pos (by omega), if_neg h]
theorem Pl.an_2 (h : P.f ≠ 0) : P.an (2 * P.f + 5) = (0, P.dt) := by
  rw [Pl.an, if_neg (by omega), if_neg (by omega), if_neg (by omega), if_pos (by omega), if_neg h]
end
section
variable {f m : Nat}
theorem cs_w (k : Nat) (h : k ≤ f) : (spP f m).cs k = (1, ⟨#[102]⟩ ++ decN k, dtR (4 * m)) := (spP f m).cs_w k h
theorem cs_s : (spP f m).cs (f + 1) = (6, ⟨#[]⟩, ⟨#[]⟩) := (spP f m).cs_s
theorem cs_d (d : Nat) (h : d < f) : (spP f m).cs (f + 2 + d) = (4, ⟨#[102]⟩ ++ decN d, ⟨#[]⟩) := (spP f m).cs_d d h
theorem cs_g : (spP f m).cs (f + 2 + f) = (1, ⟨#[103]⟩, dtR (4 * m)) := (spP f m).cs_g
theorem cs_s2 : (spP f m).cs (f + 2 + f + 1) = (6, ⟨#[]⟩, ⟨#[]⟩) := (spP f m).cs_s2
theorem cs_g2 : (spP f m).cs (f + 2 + f + 1 + 1) = (1, ⟨#[103]⟩, dtR (4 * m)) := (spP f m).cs_g2
theorem cs_r : (spP f m).cs (f + 2 + f + 1 + 1 + 1) = (2, ⟨#[103]⟩, ⟨#[]⟩) := (spP f m).cs_r
end
theorem four_one (k : Int) (s t : ByteArray) : ∀ u ∈ [Value.int .i64 k, .string s, .string t, .int .i64 0], u.oneCell' = true := by
  intro u hu
  simp at hu
  rcases hu with rfl | rfl | rfl | rfl <;> rfl
theorem push_call {V w w9 : World} {o : Obj} {k kd : Nat} {a a9 : Option Addr} {c c9 : Nat} {nm dt : ByteArray} {cs : Nat → Nat × ByteArray × ByteArray} (own : w.ownsRow V.heap.size 29 4 (.slice a k c) k (callL cs k)) (hb : Below V.heap.size V w)
    (own9 : w9.ownsRow V.heap.size 29 4 (.slice a9 (k + 1) c9) (k + 1) (callL cs k ++ [.int .i64 (kd : Int), .string nm, .string dt, .int .i64 0])) (grow : (w.alloc o).grownBy w9 (Value.slice a k c).ownBlock) (hc : cs k = (kd, nm, dt)) :
    w9.ownsRow V.heap.size 29 4 (.slice a9 (k + 1) c9) (k + 1) (callL cs (k + 1)) ∧ Below V.heap.size V w9 := by
  refine ⟨?_, (hb.alloc hb.size o).grown grow (by have := hb.size; simp; omega) (fun g hg => (own.lt g hg).1)⟩
  rw [callL_succ, hc]
  exact own9
set_option maxRecDepth 100000 in
set_option maxHeartbeats 8000000 in
theorem law_space (a : Option Addr) (l ca : Nat) (xs : List Int) (w : World) (h : IRow .u8 w a l xs) (hx : ∀ i, i < l → 0 ≤ xs[i]?.getD 0 ∧ xs[i]?.getD 0 ≤ 255) (hl : l ≤ 2097152) (hR : RulesAt w) (hw0 : 0 < w.heap.size) :
    Calls Tryz.prog 3 #[.slice a l ca] w fun e w' => e = .returned (.bool true) ∧ Below w.heap.size w w' := by
  obtain ⟨i0, hi, hz0, hz1, hz2⟩ := info_parts info_call
  by_cases hbig : 1048576 < l
  · have hb' : (1048576 : Int) < (l : Int) := by omega
    clear h hx hR
    go_enter Tryz.func3, Tryz.ntmps3
    go_wp2
    go_ret
    exact ⟨rfl, Below.refl _ _⟩
  · have hb' : ¬ ((1048576 : Int) < (l : Int)) := by omega
    have HAT : Hid (∀ (i : Nat) (m : Int) V, i ≤ 3 → 2 ≤ m → m ≤ 100 → Below w.heap.size w V → Calls Tryz.prog 4 #[.slice a l ca, .int .i64 (i : Int), .int .i64 m] V fun e w' => ∃ v : Nat, e = .returned (.int .i64 (v : Int)) ∧ (v : Int) < m ∧ Below V.heap.size V w') := fun i m V hi0 hm hm2 hV => (lwAt_any a l ca xs i m V (h.below hV) hx hl (by omega) hm (by omega)).mono fun e w' ⟨v, h1, h2, h3⟩ => ⟨v.toNat, by rw [h1, Int.toNat_of_nonneg h2.1], by omega, h3⟩
    have HRU := Lib.hid hR
    clear h hx hR
    go_enter Tryz.func3, Tryz.ntmps3
    go_wp2_with fail
    refine (HAT.out 0 6 w (by omega) (by omega) (by omega) (Below.refl _ _)).mono ?_
    rintro e w1 ⟨x0, rfl, hx0, hb1⟩
    obtain ⟨S0, hS0⟩ : ∃ S0 : Nat, (4 : Int) + (x0 : Int) = (S0 : Int) := ⟨4 + x0, by omega⟩
    have HB1 := Lib.hid hb1
    clear hb1
    go_wp2_with fail
    refine (HAT.out 1 5 w1 (by omega) (by omega) (by omega) HB1.out).mono ?_
    rintro e w2 ⟨x1, rfl, hx1, hb2⟩
    obtain ⟨b0, hb0⟩ : ∃ b0 : Int, (2 : Int) + (x1 : Int) = b0 := ⟨_, rfl⟩
    have hb2' := HB1.out.trans (hb2.mono HB1.out.size)
    obtain ⟨W3, hW3⟩ : ∃ W3, w2.alloc (.cells #[.int .i64 0, .int .i64 0] 25) = W3 := ⟨_, rfl⟩
    have k3 : W3.heap[w2.heap.size]? = some (.cells #[.int .i64 0, .int .i64 0] 25 (0, 0)) := by rw [← hW3]; exact heap_alloc_new w2 _
    have hb3 : Below w.heap.size w W3 := by rw [← hW3]; exact hb2'.alloc hb2'.size _
    obtain ⟨⟨c30, c31⟩, f30, f31⟩ := cells2g k3
    obtain ⟨W4, hW4⟩ : ∃ W4, (W3.setCell ⟨w2.heap.size, 0, none⟩ (.int .i64 (S0 : Int))).setCell ⟨w2.heap.size, 1, none⟩ (.int .i64 b0) = W4 := ⟨_, rfl⟩
    have k4 : W4.heap[w2.heap.size]? = some (.cells #[.int .i64 (S0 : Int), .int .i64 b0] 25 (0, 0)) := by
      rw [← hW4]
      simp [World.setCell, Array.getElem?_modify, k3]
    have hb4 : Below w.heap.size w W4 := by rw [← hW4]; exact (hb3.setCell (p := ⟨w2.heap.size, 0, none⟩) hb2'.size _).setCell (p := ⟨w2.heap.size, 1, none⟩) hb2'.size _
    have HB4 := Lib.hid (And.intro hb4 (And.intro k4 hb2'.size))
    clear hb2 hb2' hb3 hb4 k3 k4 HB1
    go_wp2_with fail
    refine (HAT.out 2 23 W4 (by omega) (by omega) (by omega) HB4.out.1).mono ?_
    rintro e w5 ⟨x2, rfl, hx2, hb5⟩
    obtain ⟨n0, hn0⟩ : ∃ n0 : Nat, (1 : Int) + (x2 : Int) = (n0 : Int) := ⟨1 + x2, by omega⟩
    have HB5 : Hid (Below w.heap.size w w5 ∧ w5.heap[w2.heap.size]? = some (.cells #[.int .i64 (S0 : Int), .int .i64 b0] 25 (0, 0)) ∧ w.heap.size ≤ w2.heap.size) := ⟨HB4.out.1.trans (hb5.mono HB4.out.1.size), (hb5.block _ (Array.getElem?_eq_some_iff.1 HB4.out.2.1).1).trans HB4.out.2.1, HB4.out.2.2⟩
    clear hb5 HB4 c30 c31 f30 f31
    go_wp2_with fail
    refine (HAT.out 3 16 w5 (by omega) (by omega) (by omega) HB5.out.1).mono ?_
    rintro e w6 ⟨x3, rfl, hx3, hb6⟩
    have HB6 : Hid (Below w.heap.size w w6 ∧ w6.heap[w2.heap.size]? = some (.cells #[.int .i64 (S0 : Int), .int .i64 b0] 25 (0, 0)) ∧ w.heap.size ≤ w2.heap.size) := ⟨HB5.out.1.trans (hb6.mono HB5.out.1.size), (hb6.block _ (Array.getElem?_eq_some_iff.1 HB5.out.2.1).1).trans HB5.out.2.1, HB5.out.2.2⟩
    clear hb6 HB5
    by_cases hz : x3 = 0
    case' pos =>
      subst hz
      obtain ⟨⟨c60, c61⟩, f60, f61⟩ := cells2g HB6.out.2.1
      obtain ⟨S, hS⟩ : ∃ S : Nat, S = 64 := ⟨_, rfl⟩
      obtain ⟨b, hb⟩ : ∃ b : Int, b = 16 := ⟨_, rfl⟩
      obtain ⟨W7, hW7⟩ : ∃ W7, (w6.setCell ⟨w2.heap.size, 0, none⟩ (.int .i64 64)).setCell ⟨w2.heap.size, 1, none⟩ (.int .i64 16) = W7 := ⟨_, rfl⟩
      have HB7 : Hid (Below w.heap.size w W7 ∧ W7.heap[w2.heap.size]? = some (.cells #[.int .i64 (S : Int), .int .i64 b] 25 (0, 0)) ∧ w.heap.size ≤ w2.heap.size) := by
        obtain ⟨h1, h2, h3⟩ := HB6.out
        refine ⟨by rw [← hW7]; exact (h1.setCell (p := ⟨w2.heap.size, 0, none⟩) h3 _).setCell (p := ⟨w2.heap.size, 1, none⟩) h3 _, ?_, h3⟩
        rw [← hW7, hS, hb]
        simp [World.setCell, Array.getElem?_modify, h2]
      clear HB6
      go_wp2_with fail
      refine (HAT.out 2 8 W7 (by omega) (by omega) (by omega) HB7.out.1).mono ?_
      rintro e V ⟨x4, rfl, hx4, hb8⟩
      obtain ⟨n, hn⟩ : ∃ n : Nat, (16 : Int) + (x4 : Int) = (n : Int) := ⟨16 + x4, by omega⟩
      have HV : Hid (Below w.heap.size w V ∧ V.heap[w2.heap.size]? = some (.cells #[.int .i64 (S : Int), .int .i64 b] 25 (0, 0)) ∧ w.heap.size ≤ w2.heap.size) := ⟨HB7.out.1.trans (hb8.mono HB7.out.1.size), (hb8.block _ (Array.getElem?_eq_some_iff.1 HB7.out.2.1).1).trans HB7.out.2.1, HB7.out.2.2⟩
      obtain ⟨p, r, f, hG⟩ := geo_of (S := S) (b := b) (n := n) (by rw [hS, hb]; rfl) (by omega) (by omega) (.inr (by omega))
      clear hb8 HB7 c60 c61 f60 f61 hS hb
    case' neg =>
      have hz' : ¬ ((x3 : Int) = 0) := by omega
      have hv0 : vG (S0 : Int) b0 = true := by
        simp [vG]
        omega
      have hsm : (S0 : Int) * b0 ≤ 54 := by
        have : (S0 : Int) * b0 ≤ 9 * 6 := Int.mul_le_mul (by omega) (by omega) (by omega) (by omega)
        omega
      obtain ⟨p, r, f, hG⟩ := geo_of (n := n0) hv0 (by omega) (by omega) (.inl hsm)
      have hn := hn0
      have HV := HB6
      clear HB6
      obtain ⟨V, rfl⟩ : ∃ V, V = w6 := ⟨_, rfl⟩
      obtain ⟨S, rfl⟩ : ∃ S, S = S0 := ⟨_, rfl⟩
      obtain ⟨b, rfl⟩ : ∃ b, b = b0 := ⟨_, rfl⟩
      obtain ⟨n, rfl⟩ : ∃ n, n = n0 := ⟨_, rfl⟩
    all_goals
      obtain ⟨⟨g0, g1⟩, _⟩ := cells2g HV.out.2.1
      obtain ⟨m, hm⟩ : ∃ m : Nat, (n : Int) - 1 = (m : Int) := ⟨n - 1, by have := hG.hn; omega⟩
      have hp := hG.hp
      have hr := hG.hr
      have hf := hG.hf
      have hb2 := hG.hb
      have hn2 := hG.hn
      have hr2 := hG.hr1
      have hsm' := hG.small
      have hwp : IntKind.i64.wrap (p : Int) = (p : Int) := wrap_small (by omega) (by have := hG.hp1; omega)
      have hwb : IntKind.i64.wrap (2 * b) = 2 * b := wrap_small (by omega) (by omega)
      have hwr : IntKind.i64.wrap (r : Int) = (r : Int) := wrap_small (by omega) (by omega)
      have hwf : IntKind.i64.wrap (f : Int) = (f : Int) := wrap_small (by omega) (by omega)
      have hn0' : ¬ ((n : Int) = 0) := by omega
      have HGE := Lib.hid hG
      clear hG
      have hmle : m ≤ 22 := by omega
      have hwm : IntKind.i64.wrap ((m : Int) * 64) = (m : Int) * 64 := wrap_small (by omega) (by omega)
      go_wp2_with fail
      go_loopw [7] (fun d wr => ∃ k : Nat, k ≤ 4 * m ∧ d = .string (dtR k) ∧ V = wr) (fun d _ => 4 * m * 16 - (match d with | .string s => s.size | _ => 0))
      case atStart => exact ⟨0, Nat.zero_le _, rfl, rfl⟩
      case round =>
        obtain ⟨k, hk, rfl, rfl⟩ := hrel
        have hsz := dtR_size k
        by_cases hlt : k < 4 * m
        · have hlt' : ((dtR k).size : Int) < (m : Int) * 64 := by omega
          go_wp2
          go_roundw
          case rel => exact ⟨k + 1, by omega, rfl, by first | trivial | rfl⟩
          case measure =>
            have h1 : (dtR k ++ ⟨#[48, 49, 50, 51, 52, 53, 54, 55, 56, 57, 97, 98, 99, 100, 101, 102]⟩).size = 16 * (k + 1) := dtR_size (k + 1)
            show 4 * m * 16 - (dtR k ++ ⟨#[48, 49, 50, 51, 52, 53, 54, 55, 56, 57, 97, 98, 99, 100, 101, 102]⟩).size < 4 * m * 16 - (dtR k).size
            rw [h1, hsz]
            omega
        · obtain rfl : k = 4 * m := by omega
          have hlt' : ¬ (((dtR (4 * m)).size : Int) < (m : Int) * 64) := by omega
          obtain ⟨W9, hW9⟩ : ∃ W9, V.alloc (.cells #[] 29) = W9 := ⟨_, rfl⟩
          have HI0 : Hid (W9.ownsRow V.heap.size 29 4 (.slice (some ⟨V.heap.size, 0, none⟩) 0 0) 0 (callL (spP f m).cs 0) ∧ Below V.heap.size V W9) := by
            rw [← hW9]
            exact ⟨⟨rfl, .inr ⟨_, 0, #[], rfl, Nat.le_refl _, heap_alloc_new V _, Nat.le_refl _, Nat.zero_le _, rfl, rfl⟩⟩, (Below.refl _ _).alloc (Nat.le_refl _) _⟩
          have HDEC : Hid (∀ (k : Nat) V, k < 100 → Calls Tryz.prog 5 #[.int .i64 (k : Int)] V fun e w' => e = .returned (.string (decN k)) ∧ Below V.heap.size V w') := fun k V hk => lwDec_any k V hk
          have hf0 : (0 : Int) ≤ (f : Int) := by omega
          go_wp2
          clear hsz hlt hlt' hk g0 g1 hp hr hf hwp hwb hwr hwf hb2
          generalize hdt : dtR (4 * m) = dt
          have HDT := Lib.hid hdt
          clear hdt
          go_loopw [8, 9] (fun v i wr => ∃ k : Nat, k ≤ f + 1 ∧ i = .int .i64 k ∧ ∃ a c, v = .slice a k c ∧ Hid (wr.ownsRow V.heap.size 29 4 (.slice a k c) k (callL (spP f m).cs k) ∧ Below V.heap.size V wr)) (fun _ i _ => f + 1 - (intOf i).toNat)
          case atStart => exact ⟨0, Nat.zero_le _, rfl, _, _, rfl, HI0⟩
          case round =>
            obtain ⟨k, hk, rfl, a1, c1, rfl, HO1⟩ := hrel
            by_cases hlt : k ≤ f
            · have hlt' : (k : Int) ≤ (f : Int) := by omega
              have hkb : k < 100 := by omega
              go_wp2_with fail
              refine (HDEC.out k wr hkb).mono ?_
              rintro e w1 ⟨rfl, hb1⟩
              have HO2 : Hid (w1.ownsRow V.heap.size 29 4 (.slice a1 k c1) k (callL (spP f m).cs k) ∧ Below V.heap.size V w1) := ⟨owns_below HO1.out.1 hb1, HO1.out.2.trans (hb1.mono HO1.out.2.size)⟩
              have HCS : Hid ((spP f m).cs k = (1, ⟨#[102]⟩ ++ decN k, dt)) := by
                show _ = _
                rw [← HDT.out]
                exact cs_w k hlt
              have hds := decN_size k hkb
              clear hb1 HO1
              go_wp2_with (at_builtin; refine wpList_append_own _ rfl _ _ 26 rfl V.heap.size 29 i0 (.agg #[.int .i64 0, .string ⟨#[]⟩, .string ⟨#[]⟩, .int .i64 0]) 4 48 Tryz.underlying26 hi hz0 hz1 hz2 rfl (by decide) _ _ _ rfl (HO2.out.1.alloc _) ⟨w1.heap.size, 0, none⟩ 1 1 [.int .i64 1, .string (⟨#[102]⟩ ++ decN k), .string (dt), .int .i64 0] rfl rfl (cells_new w1 [.int .i64 1, .string (⟨#[102]⟩ ++ decN k), .string (dt), .int .i64 0] 29) (four_one _ _ _) (by unfold maxLen; omega) (by omega) (by have := HO2.out.2.size; simp; omega) ?_)
              intro v9 w9 own9 grow9 _
              obtain ⟨a9, c9, rfl⟩ := owns_shape own9
              have HO3 : Hid (w9.ownsRow V.heap.size 29 4 (.slice a9 (k + 1) c9) (k + 1) (callL (spP f m).cs (k + 1)) ∧ Below V.heap.size V w9) := push_call HO2.out.1 HO2.out.2 own9 grow9 HCS.out
              clear own9 grow9 HO2 HCS
              go_wp2
              go_roundw
              case rel => exact ⟨k + 1, by omega, by go_num, a9, c9, rfl, HO3⟩
              case measure => simp [intOf]; omega
            · obtain rfl : k = f + 1 := by omega
              have hlt' : ¬ (((f + 1 : Nat) : Int) ≤ (f : Int)) := by omega
              have HCS : Hid ((spP f m).cs (f + 1) = (6, ⟨#[]⟩, ⟨#[]⟩)) := cs_s
              go_wp2_with (at_builtin; refine wpList_append_own _ rfl _ _ 26 rfl V.heap.size 29 i0 (.agg #[.int .i64 0, .string ⟨#[]⟩, .string ⟨#[]⟩, .int .i64 0]) 4 48 Tryz.underlying26 hi hz0 hz1 hz2 rfl (by decide) _ _ _ rfl (HO1.out.1.alloc _) ⟨wr.heap.size, 0, none⟩ 1 1 [.int .i64 6, .string (⟨#[]⟩), .string (⟨#[]⟩), .int .i64 0] rfl rfl (cells_new wr [.int .i64 6, .string (⟨#[]⟩), .string (⟨#[]⟩), .int .i64 0] 29) (four_one _ _ _) (by unfold maxLen; omega) (by omega) (by have := HO1.out.2.size; simp; omega) ?_)
              intro v9 w9 own9 grow9 _
              obtain ⟨a9, c9, rfl⟩ := owns_shape own9
              have HO3 : Hid (w9.ownsRow V.heap.size 29 4 (.slice a9 (f + 1 + 1) c9) (f + 1 + 1) (callL (spP f m).cs (f + 1 + 1)) ∧ Below V.heap.size V w9) := push_call HO1.out.1 HO1.out.2 own9 grow9 HCS.out
              clear own9 grow9 HO1 HCS
              go_wp2_with fail
              go_loopw [8, 10] (fun v i wr => ∃ d : Nat, d ≤ f ∧ i = .int .i64 d ∧ ∃ a c, v = .slice a (f + 2 + d) c ∧ Hid (wr.ownsRow V.heap.size 29 4 (.slice a (f + 2 + d) c) (f + 2 + d) (callL (spP f m).cs (f + 2 + d)) ∧ Below V.heap.size V wr)) (fun _ i _ => f - (intOf i).toNat)
              case atStart => exact ⟨0, Nat.zero_le _, rfl, _, _, rfl, HO3⟩
              case round =>
                obtain ⟨d, hd, rfl, a2, c2, rfl, HO4⟩ := hrel
                by_cases hlt : d < f
                · have hlt' : (d : Int) < (f : Int) := by omega
                  have hkb : d < 100 := by omega
                  go_wp2_with fail
                  refine (HDEC.out d wr hkb).mono ?_
                  rintro e w1 ⟨rfl, hb1⟩
                  have HO5 : Hid (w1.ownsRow V.heap.size 29 4 (.slice a2 (f + 2 + d) c2) (f + 2 + d) (callL (spP f m).cs (f + 2 + d)) ∧ Below V.heap.size V w1) := ⟨owns_below HO4.out.1 hb1, HO4.out.2.trans (hb1.mono HO4.out.2.size)⟩
                  have HCS : Hid ((spP f m).cs (f + 2 + d) = (4, ⟨#[102]⟩ ++ decN d, ⟨#[]⟩)) := cs_d d hlt
                  have hds := decN_size d hkb
                  clear hb1 HO4
                  go_wp2_with (at_builtin; refine wpList_append_own _ rfl _ _ 26 rfl V.heap.size 29 i0 (.agg #[.int .i64 0, .string ⟨#[]⟩, .string ⟨#[]⟩, .int .i64 0]) 4 48 Tryz.underlying26 hi hz0 hz1 hz2 rfl (by decide) _ _ _ rfl (HO5.out.1.alloc _) ⟨w1.heap.size, 0, none⟩ 1 1 [.int .i64 4, .string (⟨#[102]⟩ ++ decN d), .string (⟨#[]⟩), .int .i64 0] rfl rfl (cells_new w1 [.int .i64 4, .string (⟨#[102]⟩ ++ decN d), .string (⟨#[]⟩), .int .i64 0] 29) (four_one _ _ _) (by unfold maxLen; omega) (by omega) (by have := HO5.out.2.size; simp; omega) ?_)
                  intro v9 w9 own9 grow9 _
                  obtain ⟨a9, c9, rfl⟩ := owns_shape own9
                  have HO6 : Hid (w9.ownsRow V.heap.size 29 4 (.slice a9 (f + 2 + d + 1) c9) (f + 2 + d + 1) (callL (spP f m).cs (f + 2 + d + 1)) ∧ Below V.heap.size V w9) := push_call HO5.out.1 HO5.out.2 own9 grow9 HCS.out
                  clear own9 grow9 HO5 HCS
                  go_wp2
                  go_roundw
                  case rel => exact ⟨d + 1, by omega, by go_num, a9, c9, rfl, HO6⟩
                  case measure => simp [intOf]; omega
                · obtain rfl : d = f := by omega
                  have hlt' : ¬ ((d : Int) < (d : Int)) := by omega
                  have HCS : Hid ((spP d m).cs (d + 2 + d) = (1, ⟨#[103]⟩, dt)) := by
                    show _ = _
                    rw [← HDT.out]
                    exact cs_g
                  go_wp2_with (at_builtin; refine wpList_append_own _ rfl _ _ 26 rfl V.heap.size 29 i0 (.agg #[.int .i64 0, .string ⟨#[]⟩, .string ⟨#[]⟩, .int .i64 0]) 4 48 Tryz.underlying26 hi hz0 hz1 hz2 rfl (by decide) _ _ _ rfl (HO4.out.1.alloc _) ⟨wr.heap.size, 0, none⟩ 1 1 [.int .i64 1, .string (⟨#[103]⟩), .string (dt), .int .i64 0] rfl rfl (cells_new wr [.int .i64 1, .string (⟨#[103]⟩), .string (dt), .int .i64 0] 29) (four_one _ _ _) (by unfold maxLen; omega) (by omega) (by have := HO4.out.2.size; simp; omega) ?_)
                  intro va wa own9 grow9 _
                  obtain ⟨aa, ca, rfl⟩ := owns_shape own9
                  have HO7 : Hid (wa.ownsRow V.heap.size 29 4 (.slice aa (d + 2 + d + 1) ca) (d + 2 + d + 1) (callL (spP d m).cs (d + 2 + d + 1)) ∧ Below V.heap.size V wa) := push_call HO4.out.1 HO4.out.2 own9 grow9 HCS.out
                  clear own9 grow9 HO4 HCS
                  have HCS : Hid ((spP d m).cs (d + 2 + d + 1) = (6, ⟨#[]⟩, ⟨#[]⟩)) := cs_s2
                  go_wp2_with (at_builtin; refine wpList_append_own _ rfl _ _ 26 rfl V.heap.size 29 i0 (.agg #[.int .i64 0, .string ⟨#[]⟩, .string ⟨#[]⟩, .int .i64 0]) 4 48 Tryz.underlying26 hi hz0 hz1 hz2 rfl (by decide) _ _ _ rfl (HO7.out.1.alloc _) ⟨wa.heap.size, 0, none⟩ 1 1 [.int .i64 6, .string (⟨#[]⟩), .string (⟨#[]⟩), .int .i64 0] rfl rfl (cells_new wa [.int .i64 6, .string (⟨#[]⟩), .string (⟨#[]⟩), .int .i64 0] 29) (four_one _ _ _) (by unfold maxLen; omega) (by omega) (by have := HO7.out.2.size; simp; omega) ?_)
                  intro vb wb own9 grow9 _
                  obtain ⟨ab, cb, rfl⟩ := owns_shape own9
                  have HO8 : Hid (wb.ownsRow V.heap.size 29 4 (.slice ab (d + 2 + d + 1 + 1) cb) (d + 2 + d + 1 + 1) (callL (spP d m).cs (d + 2 + d + 1 + 1)) ∧ Below V.heap.size V wb) := push_call HO7.out.1 HO7.out.2 own9 grow9 HCS.out
                  clear own9 grow9 HO7 HCS
                  have HCS : Hid ((spP d m).cs (d + 2 + d + 1 + 1) = (1, ⟨#[103]⟩, dt)) := by
                    show _ = _
                    rw [← HDT.out]
                    exact cs_g2
                  go_wp2_with (at_builtin; refine wpList_append_own _ rfl _ _ 26 rfl V.heap.size 29 i0 (.agg #[.int .i64 0, .string ⟨#[]⟩, .string ⟨#[]⟩, .int .i64 0]) 4 48 Tryz.underlying26 hi hz0 hz1 hz2 rfl (by decide) _ _ _ rfl (HO8.out.1.alloc _) ⟨wb.heap.size, 0, none⟩ 1 1 [.int .i64 1, .string (⟨#[103]⟩), .string (dt), .int .i64 0] rfl rfl (cells_new wb [.int .i64 1, .string (⟨#[103]⟩), .string (dt), .int .i64 0] 29) (four_one _ _ _) (by unfold maxLen; omega) (by omega) (by have := HO8.out.2.size; simp; omega) ?_)
                  intro vc wc own9 grow9 _
                  obtain ⟨ac, cc, rfl⟩ := owns_shape own9
                  have HO9 : Hid (wc.ownsRow V.heap.size 29 4 (.slice ac (d + 2 + d + 1 + 1 + 1) cc) (d + 2 + d + 1 + 1 + 1) (callL (spP d m).cs (d + 2 + d + 1 + 1 + 1)) ∧ Below V.heap.size V wc) := push_call HO8.out.1 HO8.out.2 own9 grow9 HCS.out
                  clear own9 grow9 HO8 HCS
                  have HCS : Hid ((spP d m).cs (d + 2 + d + 1 + 1 + 1) = (2, ⟨#[103]⟩, ⟨#[]⟩)) := cs_r
                  go_wp2_with (at_builtin; refine wpList_append_own _ rfl _ _ 26 rfl V.heap.size 29 i0 (.agg #[.int .i64 0, .string ⟨#[]⟩, .string ⟨#[]⟩, .int .i64 0]) 4 48 Tryz.underlying26 hi hz0 hz1 hz2 rfl (by decide) _ _ _ rfl (HO9.out.1.alloc _) ⟨wc.heap.size, 0, none⟩ 1 1 [.int .i64 2, .string (⟨#[103]⟩), .string (⟨#[]⟩), .int .i64 0] rfl rfl (cells_new wc [.int .i64 2, .string (⟨#[103]⟩), .string (⟨#[]⟩), .int .i64 0] 29) (four_one _ _ _) (by unfold maxLen; omega) (by omega) (by have := HO9.out.2.size; simp; omega) ?_)
                  intro vd wd own9 grow9 _
                  obtain ⟨ad, cd, rfl⟩ := owns_shape own9
                  have HOa : Hid (wd.ownsRow V.heap.size 29 4 (.slice ad (d + 2 + d + 1 + 1 + 1 + 1) cd) (d + 2 + d + 1 + 1 + 1 + 1) (callL (spP d m).cs (d + 2 + d + 1 + 1 + 1 + 1)) ∧ Below V.heap.size V wd) := push_call HO9.out.1 HO9.out.2 own9 grow9 HCS.out
                  clear own9 grow9 HO9 HCS
                  obtain ⟨KK, hKK⟩ : ∃ KK, d + 2 + d + 1 + 1 + 1 + 1 = KK := ⟨_, rfl⟩
                  obtain ⟨gd, rfl⟩ : ∃ gd, ad = some ⟨gd, 0, none⟩ := by
                    rcases HOa.out.1.2 with ⟨_, e⟩ | ⟨g', cap, cur, e, _⟩
                    · omega
                    · injection e with e _ _
                      exact ⟨g', e⟩
                  have HVD : Hid (Below w.heap.size w wd ∧ wd.heap[w2.heap.size]? = some (.cells #[.int .i64 (S : Int), .int .i64 b] 25 (0, 0))) := ⟨HV.out.1.trans (HOa.out.2.mono HV.out.1.size), (HOa.out.2.block _ (Array.getElem?_eq_some_iff.1 HV.out.2.1).1).trans HV.out.2.1⟩
                  obtain ⟨⟨g0, g1⟩, _⟩ := cells2g HVD.out.2
                  have lg : w2.heap.size < wd.heap.size := World.block_lt_of_cell? wd _ g0
                  obtain ⟨T, hT⟩ : ∃ T : Nat, nblk (2 * ((S : Int) * b)) = (T : Int) := ⟨(nblk (2 * ((S : Int) * b))).toNat, by have := vG_mul HGE.out.hv; unfold nblk; omega⟩
                  obtain ⟨N, hN⟩ : ∃ N : Nat, logN S b + (S : Int) * b = (N : Int) := ⟨(logN S b + (S : Int) * b).toNat, by have := vG_mul HGE.out.hv; have := (logN_bounds HGE.out.hv).1; omega⟩
                  have HFM : Hid (∀ V, Calls Tryz.prog 7 #[.agg #[.int .i64 (S : Int), .int .i64 b]] V fun e w' => ∃ g off, e = .returned (.agg #[.slice (some ⟨g, off, none⟩) (N * 64) (N * 64), .slice none 0 0]) ∧ IRow .u8 w' (some ⟨g, off, none⟩) (N * 64) (fmtX S b T N) ∧ Below V.heap.size V w') := fun V => (implFmt_cap S b T N V HGE.out.hv hT hN).mono fun e w' ⟨a', h1, h2, h3⟩ => by
                    have hN8 := (fmt_bounds HGE.out.hv hT hN).2.2
                    rcases h2.2 with h0 | ⟨g, off, e1, _⟩
                    · omega
                    · subst e1
                      exact ⟨g, off, h1, h2.read, h3⟩
                  have HRN : Hid (∀ g off V, Below wd.heap.size wd V → IRow .u8 V (some ⟨g, off, none⟩) (N * 64) (fmtX S b T N) → Calls Tryz.prog 6 #[.agg #[.slice (some ⟨g, off, none⟩) (N * 64) (N * 64), .slice none 0 0], .agg #[.int .i64 (S : Int), .int .i64 b], .slice (some ⟨gd, 0, none⟩) KK cd, .int .i64 (-1)] V fun e w' => ∃ ga c o d1 l1 c1 d2 l2 c2, e = .returned (.agg #[.int .i64 0, .bool false, .slice (some ⟨ga, 0, none⟩) KK c, .int .i64 o, .slice d1 l1 c1, .slice d2 l2 c2]) ∧ (∃ cur, w'.heap[ga]? = some (.cells cur 42 (0, 0))) ∧ (∀ j, j < KK → w'.cell? ⟨ga, j * 9, none⟩ = some (.int .i64 ((spP d m).an j).1) ∧ w'.cell? ⟨ga, j * 9 + 1, none⟩ = some (.string ((spP d m).an j).2)) ∧ Below V.heap.size V w') := fun g off V hV hr => by
                    have hbw := HVD.out.1.trans (hV.mono HVD.out.1.size)
                    have own := owns_below HOa.out.1 hV
                    rw [hKK] at own
                    exact run_law HGE.out hm (by omega) hT hN g off V hr own (HRU.out.below hbw hw0) (by have := hbw.size; omega)
                  rw [hKK]
                  have HKK := Lib.hid hKK
                  have HBD := Lib.hid HVD.out.1
                  clear hKK HVD HOa HV HDEC HAT hT hN
                  go_wp2_with fail
                  have ne0 : ¬ (wd.heap.size = w2.heap.size) := by omega
                  go_region_held (fun V => V.cell? ⟨w2.heap.size, 0, none⟩ = some (.int .i64 (S : Int)) ∧ V.cell? ⟨w2.heap.size, 1, none⟩ = some (.int .i64 b)) (go_keep) (first
                    | (go_at_call 7; refine (HFM.out _).mono ?_; rintro e wf ⟨gF, oF, rfl, hrF, hbF⟩; have HRF := Lib.hid hrF; first
                        | (have hA : Below wd.drew.heap.size wd.drew wf := (by with_reducible exact hbF); have HBF : Hid (Below wd.heap.size wd wf) := ((Below.refl _ wd).drew).trans hA; have n0 := (HBF.out.cell lg).trans g0; have n1 := (HBF.out.cell lg).trans g1; have ne1 : ¬ (wf.heap.size = w2.heap.size) := (by have := HBF.out.size; omega); clear hbF hA hrF)
                        | (have hA : Below (wd.alloc (.cells #[.int .i64 0, .bool false, .slice none 0 0, .int .i64 0, .slice none 0 0, .slice none 0 0] 35)).drew.heap.size (wd.alloc (.cells #[.int .i64 0, .bool false, .slice none 0 0, .int .i64 0, .slice none 0 0, .slice none 0 0] 35)).drew wf := (by with_reducible exact hbF); have HBF : Hid (Below wd.heap.size wd wf) := (((Below.refl _ wd).alloc (Nat.le_refl _) _).drew).trans (hA.mono (by simp [World.drew])); have HKR : Hid (wf.heap[wd.heap.size]? = some (.cells #[.int .i64 0, .bool false, .slice none 0 0, .int .i64 0, .slice none 0 0, .slice none 0 0] 35 (0, 0))) := (hA.block _ (by simp [World.drew])).trans (heap_alloc_new wd _); have n0 := (HBF.out.cell lg).trans g0; have n1 := (HBF.out.cell lg).trans g1; have ne1 : ¬ (wf.heap.size = w2.heap.size) := (by have := HBF.out.size; omega); clear hbF hA hrF))
                    | (go_at_call 6; refine (HRN.out gF oF _ (by first | exact HBF.out | exact HBF.out.trans (((Below.refl _ wf).alloc (Nat.le_refl _) _).mono HBF.out.size)) (by first | exact HRF.out | exact HRF.out.below ((Below.refl _ wf).alloc (Nat.le_refl _) _))).mono ?_; rintro e wq ⟨ga, cq, oq, d1, l1, c1, d2, l2, c2, rfl, hta, hans, hbq⟩; have HQ : Hid (Below wd.heap.size wd wq ∧ (∃ cur, wq.heap[ga]? = some (.cells cur 42 (0, 0))) ∧ (∀ j, j < KK → wq.cell? ⟨ga, j * 9, none⟩ = some (.int .i64 ((spP d m).an j).1) ∧ wq.cell? ⟨ga, j * 9 + 1, none⟩ = some (.string ((spP d m).an j).2))) := ⟨(by first | exact HBF.out.trans (hbq.mono HBF.out.size) | exact (HBF.out.trans (((Below.refl _ wf).alloc (Nat.le_refl _) _).mono HBF.out.size)).trans (hbq.mono (by have := HBF.out.size; simp; omega))), hta, hans⟩; have q0 := (HQ.out.1.cell lg).trans g0; have q1 := (HQ.out.1.cell lg).trans g1; have ne2 : ¬ (wq.heap.size = w2.heap.size) := (by have := HQ.out.1.size; omega); (first | (have HKQ : Hid (wq.heap[wd.heap.size]? = some (.cells #[.int .i64 0, .bool false, .slice none 0 0, .int .i64 0, .slice none 0 0, .slice none 0 0] 35 (0, 0))) := (hbq.block _ (Array.getElem?_eq_some_iff.1 HKR.out).1).trans HKR.out; obtain ⟨⟨t0, t1, t2, t3, t4, t5⟩, tf⟩ := six_ofR HKQ.out; have tf0 := tf 0; have tf1 := tf 1; have tf2 := tf 2; have tf3 := tf 3; have tf4 := tf 4; have tf5 := tf 5; clear tf) | (have HKQ : Hid (wq.heap[wf.heap.size]? = some (.cells #[.int .i64 0, .bool false, .slice none 0 0, .int .i64 0, .slice none 0 0, .slice none 0 0] 35 (0, 0))) := (hbq.block _ (by simp)).trans (heap_alloc_new wf _); obtain ⟨⟨t0, t1, t2, t3, t4, t5⟩, tf⟩ := six_ofR HKQ.out; have tf0 := tf 0; have tf1 := tf 1; have tf2 := tf 2; have tf3 := tf 3; have tf4 := tf 4; have tf5 := tf 5; clear tf) | skip); clear hta hans hbq))
                  all_goals
                    first
                      | (obtain ⟨VS, hVS⟩ : ∃ VS, ((((((wq.setCell ⟨wd.heap.size, 0, none⟩ (.int .i64 0)).setCell ⟨wd.heap.size, 1, none⟩ (.bool false)).setCell ⟨wd.heap.size, 2, none⟩ (.slice (some ⟨ga, 0, none⟩) KK cq)).setCell ⟨wd.heap.size, 3, none⟩ (.int .i64 oq)).setCell ⟨wd.heap.size, 4, none⟩ (.slice d1 l1 c1)).setCell ⟨wd.heap.size, 5, none⟩ (.slice d2 l2 c2)) = VS := ⟨_, rfl⟩; rw [hVS]; have HS := Lib.hid (set_result HKQ.out (by decide) HQ.out.1 (by first | exact Nat.le_refl _ | exact HBF.out.size | exact HQ.out.1.size) HQ.out.2.1 HQ.out.2.2 hVS); have HBS : Hid (Below w.heap.size w VS) := HBD.out.trans (HS.out.2.1.mono HBD.out.size); clear hVS; generalize wd.heap.size = R at *)
                      | (obtain ⟨VS, hVS⟩ : ∃ VS, ((((((wq.setCell ⟨wf.heap.size, 0, none⟩ (.int .i64 0)).setCell ⟨wf.heap.size, 1, none⟩ (.bool false)).setCell ⟨wf.heap.size, 2, none⟩ (.slice (some ⟨ga, 0, none⟩) KK cq)).setCell ⟨wf.heap.size, 3, none⟩ (.int .i64 oq)).setCell ⟨wf.heap.size, 4, none⟩ (.slice d1 l1 c1)).setCell ⟨wf.heap.size, 5, none⟩ (.slice d2 l2 c2)) = VS := ⟨_, rfl⟩; rw [hVS]; have HS := Lib.hid (set_result HKQ.out (by decide) HQ.out.1 (by first | exact Nat.le_refl _ | exact HBF.out.size | exact HQ.out.1.size) HQ.out.2.1 HQ.out.2.2 hVS); have HBS : Hid (Below w.heap.size w VS) := HBD.out.trans (HS.out.2.1.mono HBD.out.size); clear hVS; generalize wf.heap.size = R at *)
                      | (obtain ⟨VS, hVS⟩ : ∃ VS, wq.alloc (.cells #[.int .i64 0, .bool false, .slice (some ⟨ga, 0, none⟩) KK cq, .int .i64 oq, .slice d1 l1 c1, .slice d2 l2 c2] 35) = VS := ⟨_, rfl⟩; rw [hVS]; have HS := Lib.hid (new_result HQ.out.1 HQ.out.2.1 HQ.out.2.2 hVS); have HBS : Hid (Below w.heap.size w VS) := HBD.out.trans (HS.out.2.1.mono HBD.out.size); clear hVS; generalize wq.heap.size = R at *)
                    obtain ⟨⟨z0, z1, z2, z3, z4, z5⟩, _⟩ := six_ofR HS.out.1
                    have lR : R < VS.heap.size := (Array.getElem?_eq_some_iff.1 HS.out.1).1
                    have lga := HS.out.2.2.1
                    have hKK := HKK.out
                    have HAN := Lib.hid HS.out.2.2.2
                    have hk4 : (KK : Int) - 4 = ((2 * d + 2 : Nat) : Int) := by omega
                    have hk3 : (KK : Int) - 3 = ((2 * d + 3 : Nat) : Int) := by omega
                    have hk2 : (KK : Int) - 2 = ((2 * d + 4 : Nat) : Int) := by omega
                    have hk1 : (KK : Int) - 1 = ((2 * d + 5 : Nat) : Int) := by omega
                    have e4 := (HAN.out (2 * d + 2) (by omega)).1
                    have e3 := (HAN.out (2 * d + 3) (by omega)).1
                    have e2 := (HAN.out (2 * d + 4) (by omega)).1
                    have e1 := HAN.out (2 * d + 5) (by omega)
                    rw [show (spP d m).an (2 * d + 2) = (24, ⟨#[]⟩) from (spP d m).an_g] at e4
                    rw [show (spP d m).an (2 * d + 3) = (0, ⟨#[]⟩) from (spP d m).an_s] at e3
                    have HE2 := Lib.hid (And.intro e2 e1)
                    clear HS HQ HBF HRF HRN HFM HBD HKK g0 g1 n0 n1 q0 q1 ne0 ne1 ne2 lg e2 e1
                    (try clear t0 t1 t2 t3 t4 t5 tf0 tf1 tf2 tf3 tf4 tf5 HKQ)
                    (try clear HKR)
                    go_wp2_with fail
                    go_loopw [13, 14] (fun i u wr => ∃ j : Nat, j ≤ 2 * d + 2 ∧ i = .int .i64 j ∧ VS = wr) (fun i _ _ => 2 * d + 2 - (intOf i).toNat)
                    case atStart => exact ⟨0, Nat.zero_le _, rfl, rfl⟩
                    case round =>
                      obtain ⟨j, hj, rfl, rfl⟩ := hrel
                      by_cases hlt : j < 2 * d + 2
                      · have hlt' : (j : Int) < ((2 * d + 2 : Nat) : Int) := by omega
                        have hj0 : (0 : Int) ≤ (j : Int) := by omega
                        have hjK : (j : Int) < (KK : Int) := by omega
                        have cj := (HAN.out j (by omega)).1
                        clear e4 e3 hk3 hk2 hk1
                        by_cases hjd : j = d
                        · rw [hjd, show (spP d m).an d = (24, ⟨#[]⟩) from (spP d m).an_f] at cj
                          subst hjd
                          go_wp2
                          go_roundw
                          case rel => exact ⟨j + 1, by omega, by go_num, by first | trivial | rfl⟩
                          case measure => simp [intOf]; omega
                        · have hjd' : ¬ ((j : Int) = (d : Int)) := by omega
                          have haj : (spP d m).an j = (0, ⟨#[]⟩) := by
                            by_cases hjl : j < d
                            · exact (spP d m).an_w j hjl
                            · exact (spP d m).an_d j (show d < j by omega) hlt
                          rw [haj] at cj
                          clear haj
                          go_wp2
                          go_roundw
                          case rel => exact ⟨j + 1, by omega, by go_num, by first | trivial | rfl⟩
                          case measure => simp [intOf]; omega
                      · obtain rfl : j = 2 * d + 2 := by omega
                        have hlt' : ¬ (((2 * d + 2 : Nat) : Int) < ((2 * d + 2 : Nat) : Int)) := by omega
                        have i4 : (0 : Int) ≤ ((2 * d + 2 : Nat) : Int) := by omega
                        have i3 : (0 : Int) ≤ ((2 * d + 3 : Nat) : Int) := by omega
                        have i2 : (0 : Int) ≤ ((2 * d + 4 : Nat) : Int) := by omega
                        have i1 : (0 : Int) ≤ ((2 * d + 5 : Nat) : Int) := by omega
                        have j4 : ((2 * d + 2 : Nat) : Int) < (KK : Int) := by omega
                        have j3 : ((2 * d + 3 : Nat) : Int) < (KK : Int) := by omega
                        have j2 : ((2 * d + 4 : Nat) : Int) < (KK : Int) := by omega
                        have j1 : ((2 * d + 5 : Nat) : Int) < (KK : Int) := by omega
                        have b4 : 2 * d + 2 ≤ 300 := by omega
                        have b3 : 2 * d + 3 ≤ 300 := by omega
                        have b2 : 2 * d + 4 ≤ 300 := by omega
                        have b1 : 2 * d + 5 ≤ 300 := by omega
                        have hKb : KK ≤ 300 := by omega
                        obtain ⟨e2, e1, e0⟩ := HE2.out
                        by_cases h0 : d = 0
                        · rw [show (spP d m).an (2 * d + 4) = (24, ⟨#[]⟩) from (spP d m).an_0 h0] at e2
                          have h0' : (d : Int) = 0 := by omega
                          generalize 2 * d + 2 = q4 at *
                          generalize 2 * d + 3 = q3 at *
                          generalize 2 * d + 4 = q2 at *
                          generalize 2 * d + 5 = q1 at *
                          clear e1 e0 HE2 hKK hj hlt
                          go_wp2
                          go_ret
                          exact ⟨rfl, HBS.out⟩
                        · rw [show (spP d m).an (2 * d + 4) = (0, ⟨#[]⟩) from (spP d m).an_1 h0] at e2
                          rw [show (spP d m).an (2 * d + 5) = (0, (spP d m).dt) from (spP d m).an_2 h0] at e1 e0
                          have hdd : (spP d m).dt = dt := HDT.out
                          rw [hdd] at e0
                          have h0' : ¬ ((d : Int) = 0) := by omega
                          generalize 2 * d + 2 = q4 at *
                          generalize 2 * d + 3 = q3 at *
                          generalize 2 * d + 4 = q2 at *
                          generalize 2 * d + 5 = q1 at *
                          clear HE2 hdd hKK hj hlt
                          go_wp2
                          go_ret
                          exact ⟨rfl, HBS.out⟩
end Go.Proofs.YtonpdbajoidigaaGreatDoor
