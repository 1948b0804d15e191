/-
  Spi, Spj.
-/
import Derived.Test.YtonpdbajoidigaaGreatDoorGo
/-
  FnSpace: the engine appends a block to a new segment behind a full one.
-/
namespace Go.Proofs.YtonpdbajoidigaaGreatDoor
open Go.RowKit
set_option linter.unusedSimpArgs false
set_option linter.unusedVariables false

set_option maxHeartbeats 4000000 in
set_option maxRecDepth 100000 in
theorem append_newB (B E C nb M : Nat) (S : Nat) (b : Int) (W Dm gt tc n : Nat) (es : List (Int × Bool)) (q a u o f : Int) (hs : List Value) (rd : Int → List Int) (lid : Nat) (X : List Int) (ino : Bool) (w : World)
    (hE : EngAt w E C S b W Dm (.slice (some ⟨gt, 0, none⟩) n tc) q a u o hs) (hD : DS B w C nb M 256 rd) (hT : TAt B w gt tc n es) (hB : B ≤ E) (hv : vG (S : Int) b = true) (hnb : (nb : Int) = logN S b + S * b) (hn : n ≤ 4096) (hX : X.length = 64) (hl : 1 ≤ lid) (hl' : lid ≤ n) (ho : 0 ≤ o) (ho' : o ≤ 2305843009213693952)
    (hau : a ≠ -1) (hub : u = b) (hf : freeN (segL (logN S b) b es S n) a S = f) (ha0 : 0 ≤ f) (ha1 : f < S) :
    Calls Tryz.prog 81 #[.pointer (some ⟨E, 0, none⟩), .int .i64 lid, .agg (u8s X).toArray, .bool ino] w fun e w' => (∃ v, e = .returned v) ∧ ∃ o', o ≤ o' ∧ o' ≤ o + 2 ∧ EApp B w w' E C nb M S b W Dm gt tc n (es.set (lid - 1) (logN S b + f * b, ino)) q f 1 o' hs (updR rd (logN S b + f * b) X) := by
  obtain ⟨W1, hW1⟩ : ∃ W1, w.alloc (.cells (u8s X).toArray 74) = W1 := ⟨_, rfl⟩
  have hb1 : Below w.heap.size w W1 := by rw [← hW1]; exact (Below.refl _ _).alloc (Nat.le_refl _) _
  have k1 : W1.heap[w.heap.size]? = some (.cells (u8s X).toArray 74 (0, 0)) := by rw [← hW1]; exact heap_alloc_new w _
  have hE1 : EngAt W1 E C S b W Dm (.slice (some ⟨gt, 0, none⟩) n tc) q a u o hs := (hb1.block E hE.lt).trans hE
  have hlE := hE1.lt
  have c2 := hE1.c2
  have c12 := hE1.c12
  have c13 := hE1.c13
  have hg := vG_bounds hv
  obtain ⟨hL0, hL1⟩ := logN_bounds hv
  obtain ⟨p, hp⟩ : ∃ p, f * b = p := ⟨_, rfl⟩
  have hp0 : 0 ≤ p := by rw [← hp]; exact Int.mul_nonneg ha0 (by omega)
  have hp1 : p + b ≤ S * b := by rw [← hp]; have : (f + 1) * b ≤ S * b := Int.mul_le_mul_of_nonneg_right (by omega) (by omega); rw [Int.add_mul] at this; omega
  have hS : (S : Int) * b ≤ 1024 := by have : (S : Int) * b ≤ 64 * 16 := Int.mul_le_mul (by omega) (by omega) (by omega) (by omega); omega
  have HT : Hid (TAt B W1 gt tc n es) := hT.kd (S := fun _ => False) (Kd.of_below hb1) id
  have HCN : Hid (∀ d, Calls Tryz.prog 96 #[.pointer (some ⟨E, 0, none⟩)] (W1.drewN d).drew fun e w' => ∃ a' c', e = .returned (.slice a' S c') ∧ IRow .i64 w' a' S (segL (logN S b) b es S n) ∧ Below W1.heap.size W1 w') := fun d => (ecounts_any E C S b W Dm _ n tc es q a u o hs (W1.drewN d).drew hE1 (HT.out.read.below ((below_drewN (Below.refl _ _) d).drew)) (by omega) hv).mono fun e w' ⟨a', c', h1, h2, h3⟩ => ⟨a', c', h1, h2, ((below_drewN (Below.refl _ _) d).drew).trans h3⟩
  have HB1 : Hid (Below B w W1 ∧ Kd (fun g => g = C ∨ g = M ∨ g = E ∨ g = gt) w W1) := ⟨hb1.mono (by have := hE.lt; omega), Kd.of_below hb1⟩
  have HNT : Hid (gt ≠ C ∧ gt ≠ M ∧ gt ≠ E) := by
    obtain ⟨cur, hc⟩ := HT.out.tag
    obtain ⟨xs, ws, da, dc, wa, wc, D, hcd, _⟩ := hD.kd (S := fun _ => False) hb1
    refine ⟨(hcd.neTag hc (by decide)).1, (hcd.neTag hc (by decide)).2, fun e => ?_⟩
    have hE1' := hE1
    unfold EngAt at hE1'
    rw [e, hE1'] at hc
    cases hc
  have HD1 : Hid (DS B W1 C nb M 256 rd) := hD.kd (S := fun _ => False) hb1
  have HK1 := Lib.hid k1
  have HE1 := Lib.hid hE1
  have hXl : (u8s X).length = 64 := by rw [u8s_len, hX]
  have HFS : Hid (∀ (V : World) a' c', IRow .i64 V a' S (segL (logN S b) b es S n) → Calls Tryz.prog 142 #[.slice a' S c', .int .i64 a] V fun e w' => e = .returned (.int .i64 f) ∧ Below V.heap.size V w') := fun V a' c' h => by rw [← hf]; exact freeSegment_impl a' S c' _ a V h (by omega)
  rw [hp]
  have hnbL : (nb : Int) = logN S b + S * b := hnb
  clear hE hD hT hb1 k1 hE1 hf
  have e1 : (a == -1) = false := by rw [beq_eq_false_iff_ne]; exact hau
  have e2 : (u == b) = true := by rw [hub]; exact beq_self_eq_true _
  clear hau hub
  go_enter Tryz.func81, Tryz.ntmps81
  go_wp2
  go_quiet (fail)
  go_wp2
  refine wp_region_held_drew (S := fun _ => True) (by kernel_rfl) trivial (fun hS => ?_)
  refine wpAnyH_take (i := 0) (v := .pointer (some ⟨E, 0, none⟩)) rfl (by kernel_rfl) (by kernel_rfl) (by kernel_rfl) (fun _ _ _ h => h) (Or.inl ⟨rfl, fun V hV => by go_simp⟩) hS ?_
  refine wpAnyH_take (i := 1) (v := .pointer (some ⟨E, 0, none⟩)) rfl (by kernel_rfl) (by kernel_rfl) (by kernel_rfl) (fun _ _ _ h => h) (Or.inl ⟨rfl, fun V hV => by go_simp⟩) hS ?_
  refine wpAnyH_take (i := 3) (v := .pointer (some ⟨E, 0, none⟩)) rfl (by kernel_rfl) (by kernel_rfl) (by kernel_rfl) (fun _ _ _ h => h) (Or.inl ⟨rfl, fun V hV => by go_simp⟩) hS ?_
  refine wpAnyH_take (i := 4) (v := .pointer (some ⟨E, 0, none⟩)) rfl (by kernel_rfl) (by kernel_rfl) (by kernel_rfl) (fun _ _ _ h => h) (Or.inl ⟨rfl, fun V hV => by go_simp⟩) hS ?_
  refine wpAnyH_take (i := 5) (v := .pointer (some ⟨E, 12, none⟩)) rfl (by kernel_rfl) (by kernel_rfl) (by kernel_rfl) (fun _ _ _ h => h) (Or.inl ⟨rfl, fun V hV => by go_simp⟩) hS ?_
  refine wpAnyH_ready (rs := [2, 6]) (by kernel_rfl) (by simp) (AllReadyH.cons rfl (fun K hK => ?g1) (AllReadyH.cons rfl (fun K hK => ?g2) AllReadyH.nil))
  case' g1 =>
    go_simp
    refine (HCN.out _).mono ?_
    rintro e w2 ⟨a', c', rfl, hr, hb2⟩
    have hE2 : EngAt w2 E C S b W Dm (.slice (some ⟨gt, 0, none⟩) n tc) q a u o hs := (hb2.block E hlE).trans HE1.out
    have c12 := hE2.c12
    have HE2 := Lib.hid hE2
    have HR := Lib.hid hr
    have HBB := Lib.hid hb2
    clear hr hb2 hE2
    go_simp
    refine hK.out _ _ trivial (fun _ => ?_)
    clear hK K
    refine wpAnyH_ready (rs := [6]) (by kernel_rfl) (by simp) (AllReadyH.cons rfl (fun K hK => ?_) AllReadyH.nil)
    go_simp
    refine hK.out _ _ trivial (fun _ => ?_)
    clear hK K
  case' g2 =>
    go_simp
    refine hK.out _ _ trivial (fun _ => ?_)
    clear hK K
    refine wpAnyH_ready (rs := [2]) (by kernel_rfl) (by simp) (AllReadyH.cons rfl (fun K hK => ?_) AllReadyH.nil)
    go_simp
    refine (HCN.out _).mono ?_
    rintro e w2 ⟨a', c', rfl, hr, hb2⟩
    have hE2 : EngAt w2 E C S b W Dm (.slice (some ⟨gt, 0, none⟩) n tc) q a u o hs := (hb2.block E hlE).trans HE1.out
    have c12 := hE2.c12
    have HE2 := Lib.hid hE2
    have HR := Lib.hid hr
    have HBB := Lib.hid hb2
    clear hr hb2 hE2
    go_simp
    refine hK.out _ _ trivial (fun _ => ?_)
    clear hK K
  all_goals
    refine wpAnyH_ready (rs := [7]) (by kernel_rfl) (by simp) (AllReadyH.cons rfl (fun K hK => ?_) AllReadyH.nil)
    go_simp
    have hfs := HFS.out w2 a' c' HR.out
    refine hfs.mono ?_
    clear hfs
    rintro e w3 ⟨rfl, hb3⟩
    have hE3 : EngAt w3 E C S b W Dm (.slice (some ⟨gt, 0, none⟩) n tc) q a u o hs := (hb3.block E HE2.out.lt).trans HE2.out
    have c12 := hE3.c12
    have f12 := hE3.fz 12
    have HE3 := Lib.hid hE3
    have HBC : Hid (Below W1.heap.size W1 w3) := HBB.out.trans (hb3.mono HBB.out.size)
    clear hb3 hE3
    go_simp
    refine hK.out _ _ trivial (fun _ => ?_)
    clear hK K
    refine wpAnyH_take (i := 8) (v := .pointer (some ⟨E, 0, none⟩)) rfl (by kernel_rfl) (by kernel_rfl) (by kernel_rfl) (fun _ _ _ h => h) (Or.inl ⟨rfl, fun V hV => by go_simp⟩) trivial ?_
    refine wpAnyH_take (i := 9) (v := .pointer (some ⟨E, 12, none⟩)) rfl (by kernel_rfl) (by kernel_rfl) (by kernel_rfl) (fun _ _ _ h => h) (Or.inl ⟨rfl, fun V hV => by go_simp⟩) trivial ?_
    refine wpAnyH_ready (rs := [10]) (by kernel_rfl) (by simp) (AllReadyH.cons rfl (fun K hK => ?_) AllReadyH.nil)
    go_simp
    refine hK.out _ _ trivial (fun _ => ?_)
    clear hK K
    refine wpAnyH_done (by kernel_rfl) ?_ _
    have hE4 := HE3.out.setAct f
    have f13 := hE4.fz 13
    have c13 := hE4.c13
    obtain ⟨V1, hV1⟩ : ∃ V1, (w3.setCell ⟨E, 12, none⟩ (.int .i64 f)).setCell ⟨E, 13, none⟩ (.int .i64 0) = V1 := ⟨_, rfl⟩
    have hE5 : EngAt V1 E C S b W Dm (.slice (some ⟨gt, 0, none⟩) n tc) q f 0 o hs := by rw [← hV1]; exact hE4.setUsed 0
    have kV : Kept (fun g => g = E) w3 V1 := by rw [← hV1]; exact (Kept.setCell _ ⟨E, 12, none⟩ _ (fun g => g = E) rfl).trans (Kept.setCell _ ⟨E, 13, none⟩ _ (fun g => g = E) rfl)
    have kdV : Kd (fun g => g = E) W1 V1 := (Kd.of_below HBC.out).trans (Kd.of_kept kV fun g hg => .inl hg)
    have hT5 : TAt B V1 gt tc n es := HT.out.kd kdV HNT.out.2.2
    have hD5 : DS B V1 C nb M 256 rd := by
      obtain ⟨xs, ws, da, dc, wa, wc, D, hc, h1, h2, h3⟩ := HD1.out
      have hc3 := hc.below HBC.out
      refine ⟨xs, ws, da, dc, wa, wc, D, ?_, h1, h2, h3⟩
      rw [← hV1]
      exact (hc3.setE HE3.out 12 _).setE hE4 13 _
    have k5 : V1.heap[w.heap.size]? = some (.cells (u8s X).toArray 74 (0, 0)) := by
      have l := (Array.getElem?_eq_some_iff.1 HK1.out).1
      have h3 := (HBC.out.block _ l).trans HK1.out
      refine (kV.block _ (Array.getElem?_eq_some_iff.1 h3).1 (fun e => ?_)).trans h3
      have := HE3.out
      unfold EngAt at this
      rw [e, this] at h3
      injection h3 with h3
      injection h3 with _ e2
      exact absurd e2 (by decide)
    have HB1 : Hid (Below B w V1 ∧ Kd (fun g => g = C ∨ g = M ∨ g = E ∨ g = gt) w V1) := ⟨(HB1.out.1.trans (HBC.out.mono (by omega))).trans (kV.below (by have := HBC.out.size; omega) (fun g hg => by rw [hg]; exact hB)), HB1.out.2.trans (kdV.mono fun g hg => .inr (.inr (.inl hg)))⟩
    have c1 := hE5.c1
    have c2 := hE5.c2
    have c5 := hE5.c5
    have d12 := hE5.c12
    have d13 := hE5.c13
    have HT := Lib.hid hT5
    have hlE5 := hE5.lt
    have HW : Hid (∀ d, Calls Tryz.prog 92 #[.pointer (some ⟨E, 0, none⟩), .int .i64 (logN S b + p), .agg (u8s X).toArray] (V1.drewN d) fun e w' => (∃ v, e = .returned v) ∧ ∃ o', o ≤ o' ∧ o' ≤ o + 2 ∧ EOp B (V1.drewN d) w' E C nb M 256 S b W Dm (.slice (some ⟨gt, 0, none⟩) n tc) q f 0 o' hs (updR rd (logN S b + p) X)) := fun d => ewrite_any B E C nb M S b W Dm _ q f 0 o hs rd (logN S b + p) X (V1.drewN d) (hE5.drew d) (hD5.drew d) hB ho ho' hX (by omega) (by omega) (by omega)
    have rng := range_of_heap k5
    clear hE4 hE5 kV kdV hT5 hD5 k5 HD1 HK1 HE1 HE2 HE3 HR HBB HBC HFS HCN hv
    clear c12 f12
    generalize hLL : logN (S : Int) b = L at *
    have HLL := Lib.hid hLL
    clear hLL
    have hm1 : -9223372036854775808 ≤ p := by omega
    go_wp2
    go_quiet (fail)
    go_wp2_with (first
      | (refine wpList_load_mid rfl 74 _ rfl w.heap.size 0 rfl (u8s X) _ rng Tryz.underlying74 rfl (by rw [hXl]; exact infoBB) ?_)
      | fail)
    refine (HW.out _).mono ?_
    rintro e w7 ⟨⟨v, rfl⟩, o', ho1, ho2, hE7, hD7, hb7, hk7⟩
    have HB7 : Hid (Below B w w7 ∧ Kd (fun g => g = C ∨ g = M ∨ g = E ∨ g = gt) w w7) := ⟨(below_drewN HB1.out.1 _).trans hb7, (HB1.out.2.trans (Kd.of_below (below_drewN (Below.refl _ _) _))).trans (hk7.mono fun g hg => hg.elim .inl (fun x => x.elim (fun y => .inr (.inl y)) (fun y => .inr (.inr (.inl y)))))⟩
    have hT7 : TAt B w7 gt tc n es := (HT.out.drew _).kd hk7 (fun x => by
      obtain ⟨n1, n2, n3⟩ := HNT.out
      rcases x with x | x | x
      · exact n1 x
      · exact n2 x
      · exact n3 x)
    obtain ⟨W8, hW8⟩ : ∃ W8, w7.setCell ⟨E, 13, none⟩ (.int .i64 1) = W8 := ⟨_, rfl⟩
    have hE8 : EngAt W8 E C S b W Dm (.slice (some ⟨gt, 0, none⟩) n tc) q f 1 o' hs := by rw [← hW8]; exact hE7.setUsed 1
    have hk8 : Kept (fun g => g = E) w7 W8 := by rw [← hW8]; exact Kept.setCell w7 ⟨E, 13, none⟩ _ (fun g => g = E) rfl
    have hkd8 : Kd (fun g => g = C ∨ g = M ∨ g = E ∨ g = gt) w7 W8 := Kd.of_kept hk8 fun g hg => .inl (.inr (.inr (.inl hg)))
    have hT8 : TAt B W8 gt tc n es := hT7.kd (S := fun g => g = E) (Kd.of_kept hk8 fun g hg => .inl hg) HNT.out.2.2
    have c13 := hE7.c13
    have f13 := hE7.fz 13
    have d10 := hE8.c10
    have HW0 : Hid (∀ d, EApp B w (((W8.drewN d).setCell ⟨gt, (lid - 1) * 2, none⟩ (.int .i64 (L + p))).setCell ⟨gt, (lid - 1) * 2 + 1, none⟩ (.bool ino)) E C nb M S b W Dm gt tc n (es.set (lid - 1) (L + p, ino)) q f 1 o' hs (updR rd (L + p) X)) := fun d => by
      have hT4 := (hT8.drew d).set (lid - 1) (by omega) (L + p) ino
      have kk : Kept (fun g => g = gt) (W8.drewN d) (((W8.drewN d).setCell ⟨gt, (lid - 1) * 2, none⟩ (.int .i64 (L + p))).setCell ⟨gt, (lid - 1) * 2 + 1, none⟩ (.bool ino)) := (Kept.setCell _ ⟨gt, _, none⟩ _ (fun g => g = gt) rfl).trans (Kept.setCell _ ⟨gt, _, none⟩ _ (fun g => g = gt) rfl)
      have kd : Kd (fun g => g = gt) (W8.drewN d) _ := Kd.of_kept kk fun g hg => .inl hg
      obtain ⟨n1, n2, n3⟩ := HNT.out
      have hcd : ∀ {xs ws dv wv D}, CD B w7 C nb xs ws dv wv M D → CD B (((W8.drewN d).setCell ⟨gt, (lid - 1) * 2, none⟩ (.int .i64 (L + p))).setCell ⟨gt, (lid - 1) * 2 + 1, none⟩ (.bool ino)) C nb xs ws dv wv M D := fun {xs ws dv wv D} hc => by
        have h3 : CD B W8 C nb xs ws dv wv M D := by rw [← hW8]; exact hc.setE hE7 13 _
        obtain ⟨cur, htg⟩ := hT8.tag
        refine (h3.below (below_drewN (Below.refl _ _) d)).kept kk (fun g hg e => ?_)
        subst e
        rcases hg with e | e | e | e
        · exact n1 e
        · exact n2 e
        · exact h3.neD htg (by decide) e
        · exact h3.neW htg (by decide) e
      have hlt : gt < (W8.drewN d).heap.size := by obtain ⟨cur, htg⟩ := hT8.tag; exact (Array.getElem?_eq_some_iff.1 htg).1
      have hBg : B ≤ gt := (hT8.lt gt rfl).1
      have hbl : Below B w7 W8 := hk8.below (by have := hE7.lt; omega) (fun g hg => by rw [hg]; exact hB)
      refine ⟨kd.eng (hE8.drew d) (fun e => n3 e.symm), ?_, hT4, (HB7.out.1.trans hbl).trans ((below_drewN (Below.refl _ _) d).trans (kk.below (Nat.le_trans hBg (Nat.le_of_lt hlt)) (fun g hg => by rw [hg]; exact hBg))), (HB7.out.2.trans hkd8).trans ((Kd.of_below (below_drewN (Below.refl _ _) d)).trans (kd.mono fun g hg => .inr (.inr (.inr hg))))⟩
      obtain ⟨xs, ws, da, dc, wa, wc, D, hc, h1, h2, h3⟩ := hD7
      exact ⟨xs, ws, da, dc, wa, wc, D, hcd hc, h1, h2, h3⟩
    have tcell : (W8.cell? ⟨gt, (lid - 1) * 2, none⟩ = some (.int .i64 (eA es (lid - 1))) ∧ W8.frozen? ⟨gt, (lid - 1) * 2, none⟩ = false) ∧ W8.cell? ⟨gt, (lid - 1) * 2 + 1, none⟩ = some (.bool (eI es (lid - 1))) ∧ W8.frozen? ⟨gt, (lid - 1) * 2 + 1, none⟩ = false := by
      obtain ⟨a', c', e', he⟩ := owns_e hT8
      injection e' with e1' e2' e3'
      subst e1'
      rcases he.2 with h0 | ⟨g', off', e4, _, hcell⟩
      · omega
      injection e4 with e4
      injection e4 with e5 e6
      subst e5; subst e6
      have := hcell (lid - 1) (by omega)
      rw [Nat.zero_add] at this
      exact this
    obtain ⟨⟨t1, t2⟩, t3, t4⟩ := tcell
    have hlid : ((lid : Int) - 1).toNat = lid - 1 := by omega
    have hli0 : (0 : Int) ≤ (lid : Int) - 1 := by omega
    have hli1 : (lid : Int) - 1 < (n : Int) := by omega
    clear hE7 hD7 hb7 hk7 hT7 hk8 hkd8 hT8 hE8 HW HT HB1 HNT rng
    go_wp2
    go_end0
    rw [HLL.out]
    exact ⟨⟨_, rfl⟩, o', ho1, ho2, HW0.out 0⟩
end Go.Proofs.YtonpdbajoidigaaGreatDoor

/-
  FnSpace: lids in use; free space.
-/
namespace Go.Proofs.YtonpdbajoidigaaGreatDoor
open Go.RowKit
set_option linter.unusedSimpArgs false
set_option linter.unusedVariables false

def liveN (es : List (Int × Bool)) (k : Nat) : Nat := ((List.range k).filter fun i => decide (eA es i ≠ 0)).length
theorem liveN_succ (es : List (Int × Bool)) (k : Nat) : liveN es (k + 1) = liveN es k + (if eA es k = 0 then 0 else 1) := by
  unfold liveN
  rw [List.range_succ, List.filter_append, List.length_append]
  by_cases h : eA es k = 0 <;> simp [h]
theorem liveN_le (es : List (Int × Bool)) (k : Nat) : liveN es k ≤ k := by
  unfold liveN
  exact Nat.le_trans (List.length_filter_le _ _) (by simp)
set_option maxHeartbeats 1000000 in
set_option maxRecDepth 100000 in
theorem liveLids_any (a : Option Addr) (n c : Nat) (es : List (Int × Bool)) (w : World) (ha : ERead w a n es) (hn : n ≤ 4096) :
    Calls Tryz.prog 56 #[.slice a n c] w fun e w' => e = .returned (.int .i64 (liveN es n)) ∧ Below w.heap.size w w' := by
  have HA := Lib.hid ha
  clear ha
  go_enter Tryz.func56, Tryz.ntmps56
  go_wp2
  go_loopw [3, 8] (fun l i wr => ∃ k : Nat, k ≤ n ∧ l = .int .i64 (liveN es k) ∧ i = .int .i64 k ∧ Hid (Below w.heap.size w wr)) (fun _ i _ => n - (intOf i).toNat)
  case atStart => exact ⟨0, Nat.zero_le _, rfl, rfl, Below.refl _ _⟩
  case round =>
    obtain ⟨k, hk, rfl, rfl, HB⟩ := hrel
    by_cases hlt : k < n
    · have hlt' : (k : Int) < (n : Int) := by omega
      have h0' : (0 : Int) ≤ (k : Int) := by omega
      have hle := liveN_le es k
      rcases HA.out.2 with h | ⟨g, off, rfl, hc⟩
      · omega
      obtain ⟨q1, q2⟩ := hc k hlt
      have c1 := (HB.out.cell (World.block_lt_of_cell? w _ q1)).trans q1
      have c2 := (HB.out.cell (World.block_lt_of_cell? w _ q2)).trans q2
      have hgl : g < wr.heap.size := World.block_lt_of_cell? wr _ c1
      have HS := Lib.hid (liveN_succ es k)
      have hB2 : ∀ o, Below w.heap.size w (wr.alloc o) := fun o => HB.out.alloc HB.out.size o
      have HB2 := Lib.hid hB2
      clear hc q1 q2 hB2
      generalize eA es k = x at *
      generalize eI es k = y at *
      by_cases hx : x = 0
      · have hx' : (x != 0) = false := by rw [hx]; rfl
        have HS2 : Hid (liveN es (k + 1) = liveN es k) := by show _ = _; rw [HS.out, if_pos hx]; rfl
        clear hx HS
        go_wp2
        go_roundw
        case rel => exact ⟨k + 1, by omega, by rw [HS2.out], by go_num, HB2.out _⟩
        case measure => simp [intOf]; omega
      · have hx' : (x != 0) = true := by simpa using hx
        have HS2 : Hid (liveN es (k + 1) = liveN es k + 1) := by show _ = _; rw [HS.out, if_neg hx]
        clear hx HS
        go_wp2
        go_roundw
        case rel => exact ⟨k + 1, by omega, by rw [HS2.out]; go_num, by go_num, HB2.out _⟩
        case measure => simp [intOf]; omega
    · obtain rfl : k = n := by omega
      clear HA
      go_wp2
      go_ret
      exact ⟨rfl, HB.out⟩
/-- The free segments other than the active one, of the first k. -/
def frN (cs : List Int) (a : Int) (k : Nat) : Nat := ((List.range k).filter fun i => fitF cs a i).length
theorem frN_succ (cs : List Int) (a : Int) (k : Nat) : frN cs a (k + 1) = frN cs a k + (if fitF cs a k = true then 1 else 0) := by
  unfold frN
  rw [List.range_succ, List.filter_append, List.length_append]
  by_cases h : fitF cs a k = true <;> simp [h]
theorem frN_le (cs : List Int) (a : Int) (k : Nat) : frN cs a k ≤ k := by
  unfold frN
  exact Nat.le_trans (List.length_filter_le _ _) (by simp)
def fr0 (a u b : Int) : Int := if a = -1 then 0 else b - u
def frS (cs : List Int) (a u b : Int) (S : Nat) : Int := fr0 a u b + (frN cs a S : Int) * b
set_option maxHeartbeats 1000000 in
set_option maxRecDepth 100000 in
theorem freeSpace_any (E C : Nat) (S : Nat) (b : Int) (W Dm : Nat) (ta : Option Addr) (tn tc : Nat) (es : List (Int × Bool)) (q a u o : Int) (hs : List Value) (w : World) (hE : EngAt w E C S b W Dm (.slice ta tn tc) q a u o hs) (ht : ERead w ta tn es) (hn : tn ≤ 4096) (hv : vG (S : Int) b = true) (hu : 0 ≤ u) (hu' : u ≤ b) :
    Calls Tryz.prog 57 #[.pointer (some ⟨E, 0, none⟩)] w fun e w' => e = .returned (.int .i64 (frS (segL (logN S b) b es S tn) a u b S)) ∧ Below w.heap.size w w' := by
  have c2 := hE.c2
  have c12 := hE.c12
  have c13 := hE.c13
  have hlE := hE.lt
  have hg := vG_bounds hv
  have HE := Lib.hid hE
  have HCN : Hid (∀ d, Calls Tryz.prog 96 #[.pointer (some ⟨E, 0, none⟩)] (w.drewN d) fun e w' => ∃ a' c', e = .returned (.slice a' S c') ∧ IRow .i64 w' a' S (segL (logN S b) b es S tn) ∧ Below w.heap.size w w') := fun d => (ecounts_any E C S b W Dm _ tn tc es q a u o hs (w.drewN d) hE (ht.below (below_drewN (Below.refl _ _) d)) (by omega) hv).mono fun e w' ⟨a', c', h1, h2, h3⟩ => ⟨a', c', h1, h2, (below_drewN (Below.refl _ _) d).trans h3⟩
  obtain ⟨cs, hcs⟩ : ∃ cs, segL (logN S b) b es S tn = cs := ⟨_, rfl⟩
  rw [hcs] at HCN ⊢
  clear hE ht hv hcs
  obtain ⟨f0, hf0⟩ : ∃ f0, fr0 a u b = f0 := ⟨_, rfl⟩
  have HF0 : Hid (fr0 a u b = f0 ∧ 0 ≤ f0 ∧ f0 ≤ b) := ⟨hf0, by rw [← hf0]; unfold fr0; split <;> omega, by rw [← hf0]; unfold fr0; split <;> omega⟩
  by_cases ha : a = -1
  case' pos =>
    have e1 : (a != -1) = false := by rw [ha]; rfl
    have HZ : Hid (f0 = 0) := by show _ = _; rw [← hf0, fr0, if_pos ha]
    clear ha hf0
    go_enter Tryz.func57, Tryz.ntmps57
    go_wp2_with fail
    refine (HCN.out 0).mono ?_
    rintro e w1 ⟨a', c', rfl, hr, hb⟩
  case' neg =>
    have e1 : (a != -1) = true := by simpa using ha
    have HZ : Hid (f0 = b - u) := by show _ = _; rw [← hf0, fr0, if_neg ha]
    clear ha hf0
    go_enter Tryz.func57, Tryz.ntmps57
    go_wp2
    go_quiet (fail)
    go_wp2_with fail
    refine (HCN.out _).mono ?_
    rintro e w1 ⟨a', c', rfl, hr, hb⟩
    rw [← HZ.out]
  all_goals
    have HB1 := Lib.hid hb
    have hSn : S ≤ 64 := by omega
    have hS4 : 4 ≤ S := by omega
    have HCL := Lib.hid hr.1
    rcases hr.2 with h | ⟨g, off, rfl, hc⟩
    · omega
    have HC := Lib.hid hc
    clear hr hb HCN hc
    go_wp2
    go_loopw [3, 24] (fun fr i wr => ∃ k : Nat, k ≤ S ∧ fr = .int .i64 (f0 + (frN cs a k : Int) * b) ∧ i = .int .i64 k ∧ Hid (Below w.heap.size w wr ∧ Below w1.heap.size w1 wr)) (fun _ i _ => S - (intOf i).toNat)
    case atStart => exact ⟨0, Nat.zero_le _, by first | (simp [frN]; done) | (rw [HZ.out]; simp [frN]), rfl, HB1.out, Below.refl _ _⟩
    case round =>
      obtain ⟨k, hk, rfl, rfl, HR2⟩ := hrel
      have hfl := frN_le cs a k
      obtain ⟨hf1, hf2⟩ := HF0.out.2
      have hmul0 : (0 : Int) ≤ (frN cs a k : Int) * b := Int.mul_nonneg (by omega) (by omega)
      have hmul1 : (frN cs a k : Int) * b ≤ 1024 := by have : (frN cs a k : Int) * b ≤ 64 * 16 := Int.mul_le_mul (by omega) (by omega) (by omega) (by omega); omega
      by_cases hlt : k < S
      · have hlt' : (k : Int) < (S : Int) := by omega
        have h0' : (0 : Int) ≤ (k : Int) := by omega
        have c1 := (HR2.out.2.cell (World.block_lt_of_cell? w1 _ (HC.out k hlt))).trans (HC.out k hlt)
        have c12 : wr.cell? ⟨E, 12, none⟩ = some (.int .i64 a) := (HR2.out.1.cell hlE).trans c12
        have c2 : wr.cell? ⟨E, 2, none⟩ = some (.int .i64 b) := (HR2.out.1.cell hlE).trans c2
        have HS := Lib.hid (frN_succ cs a k)
        have HFF : Hid (fitF cs a k = (decide ((k : Int) ≠ a) && decide (cs[k]?.getD 0 = 0))) := rfl
        have HM : Hid (∀ (F : Nat), frN cs a (k + 1) = F → ((F : Nat) : Int) * b = (frN cs a k : Int) * b + (if fitF cs a k = true then b else 0)) := fun F hF => by
          rw [← hF, HS.out]
          split
          · rw [Int.natCast_add, Int.add_mul]; simp
          · simp
        have HDB : Hid (∀ d, Below w.heap.size w (wr.drewN d) ∧ Below w1.heap.size w1 (wr.drewN d)) := fun d => ⟨below_drewN HR2.out.1 d, below_drewN HR2.out.2 d⟩
        generalize cs[k]?.getD 0 = x at *
        obtain ⟨m, hm⟩ : ∃ m, (frN cs a k : Int) * b = m := ⟨_, rfl⟩
        rw [hm] at hmul0 hmul1 HM ⊢
        clear hm HS
        by_cases hka : (k : Int) = a
        · have e3 : ((k : Int) != a) = false := by rw [hka]; simp
          have HN : Hid (fitF cs a k = false) := by show _ = _; rw [HFF.out, decide_eq_false (fun h => h hka)]; rfl
          clear hka HFF
          go_wp2
          go_roundw
          case rel => exact ⟨k + 1, by omega, by rw [HM.out _ rfl, HN.out]; simp, by go_num, HR2⟩
          case measure => simp [intOf]; omega
        · have e3 : ((k : Int) != a) = true := by simpa using hka
          by_cases hx : x = 0
          · have e4 : (x == 0) = true := by rw [hx]; rfl
            have HN : Hid (fitF cs a k = true) := by show _ = _; rw [HFF.out, decide_eq_true hka, decide_eq_true hx]; rfl
            clear hka hx HFF
            go_wp2
            go_roundw
            case rel => exact ⟨k + 1, by omega, by rw [HM.out _ rfl, HN.out]; go_num, by go_num, HR2⟩
            case measure => simp [intOf]; omega
          · have e4 : (x == 0) = false := by rw [beq_eq_false_iff_ne]; exact hx
            have HN : Hid (fitF cs a k = false) := by show _ = _; rw [HFF.out, decide_eq_false hx]; simp
            clear hka hx HFF
            go_wp2
            go_roundw
            case rel => exact ⟨k + 1, by omega, by rw [HM.out _ rfl, HN.out]; simp, by go_num, HR2⟩
            case measure => simp [intOf]; omega
      · obtain rfl : k = S := by omega
        have HV : Hid (frS cs a u b k = f0 + (frN cs a k : Int) * b) := by show _ = _; rw [frS, HF0.out.1]
        go_wp2
        go_ret
        exact ⟨ret_int HV.out.symm, HR2.out.1⟩
end Go.Proofs.YtonpdbajoidigaaGreatDoor
