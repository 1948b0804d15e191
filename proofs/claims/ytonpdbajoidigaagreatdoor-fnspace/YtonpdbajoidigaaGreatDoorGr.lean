/-
  Spk, Spl, Sph, Spm.
-/
import Derived.Test.YtonpdbajoidigaaGreatDoorGp
import Derived.Test.YtonpdbajoidigaaGreatDoorGo
/-
  FnSpace: room that is there; what a look at the free space says.
-/
namespace Go.Proofs.YtonpdbajoidigaaGreatDoor
open Go.RowKit
set_option linter.unusedSimpArgs false
set_option linter.unusedVariables false

set_option maxHeartbeats 1000000 in
set_option maxRecDepth 100000 in
theorem makeRoom_any (E C : Nat) (S : Nat) (b : Int) (W Dm : Nat) (ta : Option Addr) (tn tc : Nat) (es : List (Int × Bool)) (q a u o : Int) (hs : List Value) (bl : Int) (w : World) (hE : EngAt w E C S b W Dm (.slice ta tn tc) q a u o hs) (ht : ERead w ta tn es) (hn : tn ≤ 4096) (hv : vG (S : Int) b = true) (hu : 0 ≤ u) (hu' : u ≤ b) (hb0 : 0 ≤ bl) (hb1 : bl ≤ 4096) (hroom : bl + b ≤ frS (segL (logN S b) b es S tn) a u b S) :
    Calls Tryz.prog 79 #[.pointer (some ⟨E, 0, none⟩), .int .i64 bl] w fun e w' => (∃ v, e = .returned v) ∧ Below w.heap.size w w' := by
  have hlE := hE.lt
  have hg := vG_bounds hv
  have c2 := hE.c2
  obtain ⟨F, hF⟩ : ∃ F, frS (segL (logN S b) b es S tn) a u b S = F := ⟨_, rfl⟩
  have HFS : Hid (∀ d, Calls Tryz.prog 57 #[.pointer (some ⟨E, 0, none⟩)] (w.drewN d) fun e w' => e = .returned (.int .i64 F) ∧ Below w.heap.size w w') := fun d => (freeSpace_any E C S b W Dm ta tn tc es q a u o hs (w.drewN d) hE (ht.below (below_drewN (Below.refl _ _) d)) hn hv hu hu').mono fun e w' ⟨h1, h2⟩ => ⟨by rw [h1, hF], (below_drewN (Below.refl _ _) d).trans h2⟩
  have HFS1 : Hid (Calls Tryz.prog 57 #[.pointer (some ⟨E, 0, none⟩)] w.drew fun e w' => e = .returned (.int .i64 F) ∧ Below w.heap.size w w') := HFS.out 1
  rw [hF] at hroom
  have hlt : ¬ F < bl + b := by omega
  obtain ⟨_, _, hg1, hg2⟩ := hg
  have hwr : IntKind.i64.wrap (bl + b) = bl + b := by simp [IntKind.wrap, IntKind.signed, IntKind.bits]; omega
  clear hE ht hv hF
  go_enter Tryz.func79, Tryz.ntmps79
  go_wp2
  refine wp_loop_rounds 1 ?_
  rw [rounds_succ]
  go_wp2
  go_region_law (first
    | (go_simp; go_at_call 57; refine HFS1.out.mono ?_; rintro e w1 ⟨rfl, hb⟩; have c2 : w1.cell? ⟨E, 2, none⟩ = some (.int .i64 b) := (hb.cell hlE).trans c2; have HB := Lib.hid hb; clear hb))
  all_goals
    go_wp2
    go_end0
    exact ⟨⟨_, rfl⟩, HB.out⟩
end Go.Proofs.YtonpdbajoidigaaGreatDoor

/-
  FnSpace: what a block more does to the counts.
-/
namespace Go.Proofs.YtonpdbajoidigaaGreatDoor
open Go.RowKit
set_option linter.unusedSimpArgs false
set_option linter.unusedVariables false

def cntR (p : Nat → Bool) (k : Nat) : Nat := ((List.range k).filter p).length
theorem cntR_succ (p : Nat → Bool) (k : Nat) : cntR p (k + 1) = cntR p k + (if p k = true then 1 else 0) := by
  unfold cntR
  rw [List.range_succ, List.filter_append, List.length_append]
  by_cases h : p k = true <;> simp [h]
theorem cntR_same {p q : Nat → Bool} : ∀ {k : Nat}, (∀ i, i < k → p i = q i) → cntR p k = cntR q k
  | 0, _ => rfl
  | k + 1, h => by rw [cntR_succ, cntR_succ, cntR_same (fun i hi => h i (by omega)), h k (by omega)]
theorem cntR_upd {p q : Nat → Bool} {j : Nat} (hp : p j = false) (hq : q j = true) : ∀ {k : Nat}, j < k → (∀ i, i < k → i ≠ j → p i = q i) → cntR q k = cntR p k + 1
  | 0, hj, _ => by omega
  | k + 1, hj, h => by
    rw [cntR_succ, cntR_succ]
    by_cases e : k = j
    · subst e
      rw [hp, hq, cntR_same (p := q) (q := p) (fun i hi => (h i (by omega) (by omega)).symm)]
      simp
    · rw [cntR_upd hp hq (by omega) (fun i hi hne => h i (by omega) hne), h k (by omega) (fun x => e x)]
      omega
theorem cntR_le {p q : Nat → Bool} : ∀ {k : Nat}, (∀ i, i < k → p i = true → q i = true) → cntR p k ≤ cntR q k
  | 0, _ => Nat.le_refl _
  | k + 1, h => by
    rw [cntR_succ, cntR_succ]
    have := cntR_le (p := p) (q := q) (k := k) (fun i hi => h i (by omega))
    have h1 := h k (by omega)
    by_cases e : p k = true
    · rw [if_pos e, if_pos (h1 e)]; omega
    · rw [if_neg e]; split <;> omega
theorem cntR_le1 {p q : Nat → Bool} (j : Nat) : ∀ {k : Nat}, (∀ i, i < k → i ≠ j → p i = true → q i = true) → cntR p k ≤ cntR q k + 1
  | 0, _ => by simp [cntR]
  | k + 1, h => by
    rw [cntR_succ, cntR_succ]
    by_cases e : k = j
    · have := cntR_le (p := p) (q := q) (k := k) (fun i hi hp => h i (by omega) (by omega) hp)
      split <;> split <;> omega
    · have := cntR_le1 (p := p) (q := q) j (k := k) (fun i hi => h i (by omega))
      have h1 := h k (by omega) e
      by_cases e2 : p k = true
      · rw [if_pos e2, if_pos (h1 e2)]; omega
      · rw [if_neg e2]; split <;> omega
theorem cntR_pos {p : Nat → Bool} : ∀ {k : Nat}, 1 ≤ cntR p k → ∃ i, i < k ∧ p i = true
  | 0, h => by simp [cntR] at h
  | k + 1, h => by
    rw [cntR_succ] at h
    by_cases e : p k = true
    · exact ⟨k, by omega, e⟩
    · rw [if_neg e] at h
      obtain ⟨i, hi, hp⟩ := cntR_pos (p := p) (k := k) (by omega)
      exact ⟨i, by omega, hp⟩
theorem cntR_zero {p : Nat → Bool} {k : Nat} (h : cntR p k = 0) : ∀ i, i < k → p i = false := fun i hi => by
  by_cases e : p i = true
  · exfalso
    have : 1 ≤ cntR p k := by
      have h1 : cntR (fun x => decide (x = i)) k ≤ cntR p k := cntR_le (fun j hj hx => by simp at hx; subst hx; exact e)
      have h2 : cntR (fun x => decide (x = i)) k = cntR (fun _ => false) k + 1 := cntR_upd rfl (by simp) hi (fun j _ hne => by simp [hne])
      omega
    omega
  · simpa using e
theorem cntS_R (L b : Int) (es : List (Int × Bool)) (s k : Nat) : cntS L b es s k = cntR (fun i => segB L b s (eA es i)) k := rfl
theorem liveN_R (es : List (Int × Bool)) (k : Nat) : liveN es k = cntR (fun i => decide (eA es i ≠ 0)) k := rfl
theorem frN_R (cs : List Int) (a : Int) (k : Nat) : frN cs a k = cntR (fitF cs a) k := rfl
theorem eA_set (es : List (Int × Bool)) (k i : Nat) (x : Int) (y : Bool) (hk : k < es.length) : eA (es.set k (x, y)) i = if i = k then x else eA es i := by
  unfold eA
  by_cases h : i = k
  · subst h; rw [if_pos rfl, List.getElem?_set_self hk]; rfl
  · rw [if_neg h, List.getElem?_set_ne (fun e => h e.symm)]
theorem segB_zero {L b : Int} (hL : 1 ≤ L) (hb : 0 ≤ b) (s : Nat) : segB L b s 0 = false := by
  unfold segB
  have : 0 ≤ (s : Int) * b := Int.mul_nonneg (by omega) hb
  rw [decide_eq_false (by omega)]
  rfl
theorem segB_own {L b : Int} {j s : Nat} {u : Int} (hb : 0 < b) (hu0 : 0 ≤ u) (hu1 : u < b) : segB L b s (L + (j : Int) * b + u) = decide (s = j) := by
  unfold segB
  by_cases e : s = j
  · subst e; simp; omega
  · rw [decide_eq_false e]
    rcases Nat.lt_or_gt_of_ne e with h | h
    · have : ((s : Int) + 1) * b ≤ (j : Int) * b := Int.mul_le_mul_of_nonneg_right (by omega) (by omega)
      rw [Int.add_mul] at this
      rw [decide_eq_false (p := L + (j : Int) * b + u < _) (by omega)]
      simp
    · have : ((j : Int) + 1) * b ≤ (s : Int) * b := Int.mul_le_mul_of_nonneg_right (by omega) (by omega)
      rw [Int.add_mul] at this
      rw [decide_eq_false (p := L + (s : Int) * b ≤ _) (by omega)]
      rfl
/-- The engine's table and its active segment. -/
structure TInv (L b : Int) (S n : Nat) (es : List (Int × Bool)) (a u : Int) : Prop where
  len : es.length = n
  log : ∀ i, i < n → eA es i ≠ 0 → L ≤ eA es i ∧ eA es i < L + (S : Int) * b
  act : (a = -1 ∧ 0 ≤ u ∧ u ≤ b) ∨ ∃ j : Nat, a = (j : Int) ∧ j < S ∧ 0 ≤ u ∧ u ≤ b ∧ ∀ i, i < n → segB L b j (eA es i) = true → eA es i < L + (j : Int) * b + u
section
variable {L b : Int} {S n : Nat} {es : List (Int × Bool)} {a u : Int}
theorem cnt_set (hL : 1 ≤ L) (hb : 0 < b) (hl : es.length = n) {k j : Nat} (hk : k < n) (h0 : eA es k = 0) {v : Int} (hv0 : 0 ≤ v) (hv1 : v < b) (ino : Bool) (s : Nat) : cntS L b (es.set k (L + (j : Int) * b + v, ino)) s n = cntS L b es s n + (if s = j then 1 else 0) := by
  rw [cntS_R, cntS_R]
  have hset : ∀ i, eA (es.set k (L + (j : Int) * b + v, ino)) i = if i = k then L + (j : Int) * b + v else eA es i := fun i => eA_set es k i _ _ (by omega)
  by_cases e : s = j
  · rw [if_pos e]
    refine cntR_upd (j := k) ?_ ?_ hk (fun i _ hne => ?_)
    · show segB L b s (eA es k) = false
      rw [h0]; exact segB_zero hL (by omega) s
    · show segB L b s (eA _ k) = true
      rw [hset, if_pos rfl, segB_own hb hv0 hv1, decide_eq_true e]
    · show segB L b s (eA es i) = segB L b s (eA _ i)
      rw [hset, if_neg hne]
  · rw [if_neg e, Nat.add_zero]
    refine cntR_same (fun i hi => ?_)
    show segB L b s (eA _ i) = segB L b s (eA es i)
    rw [hset]
    by_cases hik : i = k
    · subst hik
      rw [if_pos rfl, segB_own hb hv0 hv1, decide_eq_false e, h0, segB_zero hL (by omega)]
    · rw [if_neg hik]
theorem live_set (hl : es.length = n) {k : Nat} (hk : k < n) (h0 : eA es k = 0) {x : Int} (hx : x ≠ 0) (ino : Bool) : liveN (es.set k (x, ino)) n = liveN es n + 1 := by
  rw [liveN_R, liveN_R]
  refine cntR_upd (j := k) ?_ ?_ hk (fun i _ hne => ?_)
  · simp [h0]
  · simp [eA_set es k k x ino (by omega), hx]
  · simp [eA_set es k i x ino (by omega), hne]
theorem seg_at (i : Nat) (hi : i < S) : (segL L b es S n)[i]?.getD 0 = (cntS L b es i n : Int) := segL_at L b es S n i hi
theorem fit_at (i : Nat) (hi : i < S) : fitF (segL L b es S n) a i = (decide ((i : Int) ≠ a) && decide (cntS L b es i n = 0)) := by
  unfold fitF
  rw [seg_at i hi]
  congr 1
  simp
end
end Go.Proofs.YtonpdbajoidigaaGreatDoor

/-
  FnSpace: the engine appends a block to a new segment.
-/
namespace Go.Proofs.YtonpdbajoidigaaGreatDoor
open Go.RowKit
set_option linter.unusedSimpArgs false
set_option linter.unusedVariables false

set_option maxHeartbeats 4000000 in
set_option maxRecDepth 100000 in
theorem append_newA (B E C nb M : Nat) (S : Nat) (b : Int) (W Dm gt tc n : Nat) (es : List (Int × Bool)) (q a u o f : Int) (hs : List Value) (rd : Int → List Int) (lid : Nat) (X : List Int) (ino : Bool) (w : World)
    (hE : EngAt w E C S b W Dm (.slice (some ⟨gt, 0, none⟩) n tc) q a u o hs) (hD : DS B w C nb M 256 rd) (hT : TAt B w gt tc n es) (hB : B ≤ E) (hv : vG (S : Int) b = true) (hnb : (nb : Int) = logN S b + S * b) (hn : n ≤ 4096) (hX : X.length = 64) (hl : 1 ≤ lid) (hl' : lid ≤ n) (ho : 0 ≤ o) (ho' : o ≤ 2305843009213693952)
    (hau : a = -1) (hf : freeN (segL (logN S b) b es S n) a S = f) (ha0 : 0 ≤ f) (ha1 : f < S) :
    Calls Tryz.prog 81 #[.pointer (some ⟨E, 0, none⟩), .int .i64 lid, .agg (u8s X).toArray, .bool ino] w fun e w' => (∃ v, e = .returned v) ∧ ∃ o', o ≤ o' ∧ o' ≤ o + 2 ∧ EApp B w w' E C nb M S b W Dm gt tc n (es.set (lid - 1) (logN S b + f * b, ino)) q f 1 o' hs (updR rd (logN S b + f * b) X) := by
  obtain ⟨W1, hW1⟩ : ∃ W1, w.alloc (.cells (u8s X).toArray 74) = W1 := ⟨_, rfl⟩
  have hb1 : Below w.heap.size w W1 := by rw [← hW1]; exact (Below.refl _ _).alloc (Nat.le_refl _) _
  have k1 : W1.heap[w.heap.size]? = some (.cells (u8s X).toArray 74 (0, 0)) := by rw [← hW1]; exact heap_alloc_new w _
  have hE1 : EngAt W1 E C S b W Dm (.slice (some ⟨gt, 0, none⟩) n tc) q a u o hs := (hb1.block E hE.lt).trans hE
  have hlE := hE1.lt
  have c2 := hE1.c2
  have c12 := hE1.c12
  have c13 := hE1.c13
  have hg := vG_bounds hv
  obtain ⟨hL0, hL1⟩ := logN_bounds hv
  obtain ⟨p, hp⟩ : ∃ p, f * b = p := ⟨_, rfl⟩
  have hp0 : 0 ≤ p := by rw [← hp]; exact Int.mul_nonneg ha0 (by omega)
  have hp1 : p + b ≤ S * b := by rw [← hp]; have : (f + 1) * b ≤ S * b := Int.mul_le_mul_of_nonneg_right (by omega) (by omega); rw [Int.add_mul] at this; omega
  have hS : (S : Int) * b ≤ 1024 := by have : (S : Int) * b ≤ 64 * 16 := Int.mul_le_mul (by omega) (by omega) (by omega) (by omega); omega
  have HT : Hid (TAt B W1 gt tc n es) := hT.kd (S := fun _ => False) (Kd.of_below hb1) id
  have HCN : Hid (∀ d, Calls Tryz.prog 96 #[.pointer (some ⟨E, 0, none⟩)] (W1.drewN d).drew fun e w' => ∃ a' c', e = .returned (.slice a' S c') ∧ IRow .i64 w' a' S (segL (logN S b) b es S n) ∧ Below W1.heap.size W1 w') := fun d => (ecounts_any E C S b W Dm _ n tc es q a u o hs (W1.drewN d).drew hE1 (HT.out.read.below ((below_drewN (Below.refl _ _) d).drew)) (by omega) hv).mono fun e w' ⟨a', c', h1, h2, h3⟩ => ⟨a', c', h1, h2, ((below_drewN (Below.refl _ _) d).drew).trans h3⟩
  have HB1 : Hid (Below B w W1 ∧ Kd (fun g => g = C ∨ g = M ∨ g = E ∨ g = gt) w W1) := ⟨hb1.mono (by have := hE.lt; omega), Kd.of_below hb1⟩
  have HNT : Hid (gt ≠ C ∧ gt ≠ M ∧ gt ≠ E) := by
    obtain ⟨cur, hc⟩ := HT.out.tag
    obtain ⟨xs, ws, da, dc, wa, wc, D, hcd, _⟩ := hD.kd (S := fun _ => False) hb1
    refine ⟨(hcd.neTag hc (by decide)).1, (hcd.neTag hc (by decide)).2, fun e => ?_⟩
    have hE1' := hE1
    unfold EngAt at hE1'
    rw [e, hE1'] at hc
    cases hc
  have HD1 : Hid (DS B W1 C nb M 256 rd) := hD.kd (S := fun _ => False) hb1
  have HK1 := Lib.hid k1
  have HE1 := Lib.hid hE1
  have hXl : (u8s X).length = 64 := by rw [u8s_len, hX]
  have HFS : Hid (∀ (V : World) a' c', IRow .i64 V a' S (segL (logN S b) b es S n) → Calls Tryz.prog 142 #[.slice a' S c', .int .i64 a] V fun e w' => e = .returned (.int .i64 f) ∧ Below V.heap.size V w') := fun V a' c' h => by rw [← hf]; exact freeSegment_impl a' S c' _ a V h (by omega)
  rw [hp]
  have hnbL : (nb : Int) = logN S b + S * b := hnb
  clear hE hD hT hb1 k1 hE1 hf
  have e1 : (a == -1) = true := by rw [hau]; rfl
  clear hau
  go_enter Tryz.func81, Tryz.ntmps81
  go_wp2
  go_quiet (fail)
  go_wp2
  refine wp_region_held_drew (S := fun _ => True) (by kernel_rfl) trivial (fun hS => ?_)
  refine wpAnyH_take (i := 0) (v := .pointer (some ⟨E, 0, none⟩)) rfl (by kernel_rfl) (by kernel_rfl) (by kernel_rfl) (fun _ _ _ h => h) (Or.inl ⟨rfl, fun V hV => by go_simp⟩) hS ?_
  refine wpAnyH_take (i := 1) (v := .pointer (some ⟨E, 0, none⟩)) rfl (by kernel_rfl) (by kernel_rfl) (by kernel_rfl) (fun _ _ _ h => h) (Or.inl ⟨rfl, fun V hV => by go_simp⟩) hS ?_
  refine wpAnyH_take (i := 3) (v := .pointer (some ⟨E, 0, none⟩)) rfl (by kernel_rfl) (by kernel_rfl) (by kernel_rfl) (fun _ _ _ h => h) (Or.inl ⟨rfl, fun V hV => by go_simp⟩) hS ?_
  refine wpAnyH_take (i := 4) (v := .pointer (some ⟨E, 0, none⟩)) rfl (by kernel_rfl) (by kernel_rfl) (by kernel_rfl) (fun _ _ _ h => h) (Or.inl ⟨rfl, fun V hV => by go_simp⟩) hS ?_
  refine wpAnyH_take (i := 5) (v := .pointer (some ⟨E, 12, none⟩)) rfl (by kernel_rfl) (by kernel_rfl) (by kernel_rfl) (fun _ _ _ h => h) (Or.inl ⟨rfl, fun V hV => by go_simp⟩) hS ?_
  refine wpAnyH_ready (rs := [2, 6]) (by kernel_rfl) (by simp) (AllReadyH.cons rfl (fun K hK => ?g1) (AllReadyH.cons rfl (fun K hK => ?g2) AllReadyH.nil))
  case' g1 =>
    go_simp
    refine (HCN.out _).mono ?_
    rintro e w2 ⟨a', c', rfl, hr, hb2⟩
    have hE2 : EngAt w2 E C S b W Dm (.slice (some ⟨gt, 0, none⟩) n tc) q a u o hs := (hb2.block E hlE).trans HE1.out
    have c12 := hE2.c12
    have HE2 := Lib.hid hE2
    have HR := Lib.hid hr
    have HBB := Lib.hid hb2
    clear hr hb2 hE2
    go_simp
    refine hK.out _ _ trivial (fun _ => ?_)
    clear hK K
    refine wpAnyH_ready (rs := [6]) (by kernel_rfl) (by simp) (AllReadyH.cons rfl (fun K hK => ?_) AllReadyH.nil)
    go_simp
    refine hK.out _ _ trivial (fun _ => ?_)
    clear hK K
  case' g2 =>
    go_simp
    refine hK.out _ _ trivial (fun _ => ?_)
    clear hK K
    refine wpAnyH_ready (rs := [2]) (by kernel_rfl) (by simp) (AllReadyH.cons rfl (fun K hK => ?_) AllReadyH.nil)
    go_simp
    refine (HCN.out _).mono ?_
    rintro e w2 ⟨a', c', rfl, hr, hb2⟩
    have hE2 : EngAt w2 E C S b W Dm (.slice (some ⟨gt, 0, none⟩) n tc) q a u o hs := (hb2.block E hlE).trans HE1.out
    have c12 := hE2.c12
    have HE2 := Lib.hid hE2
    have HR := Lib.hid hr
    have HBB := Lib.hid hb2
    clear hr hb2 hE2
    go_simp
    refine hK.out _ _ trivial (fun _ => ?_)
    clear hK K
  all_goals
    refine wpAnyH_ready (rs := [7]) (by kernel_rfl) (by simp) (AllReadyH.cons rfl (fun K hK => ?_) AllReadyH.nil)
    go_simp
    have hfs := HFS.out w2 a' c' HR.out
    refine hfs.mono ?_
    clear hfs
    rintro e w3 ⟨rfl, hb3⟩
    have hE3 : EngAt w3 E C S b W Dm (.slice (some ⟨gt, 0, none⟩) n tc) q a u o hs := (hb3.block E HE2.out.lt).trans HE2.out
    have c12 := hE3.c12
    have f12 := hE3.fz 12
    have HE3 := Lib.hid hE3
    have HBC : Hid (Below W1.heap.size W1 w3) := HBB.out.trans (hb3.mono HBB.out.size)
    clear hb3 hE3
    go_simp
    refine hK.out _ _ trivial (fun _ => ?_)
    clear hK K
    refine wpAnyH_take (i := 8) (v := .pointer (some ⟨E, 0, none⟩)) rfl (by kernel_rfl) (by kernel_rfl) (by kernel_rfl) (fun _ _ _ h => h) (Or.inl ⟨rfl, fun V hV => by go_simp⟩) trivial ?_
    refine wpAnyH_take (i := 9) (v := .pointer (some ⟨E, 12, none⟩)) rfl (by kernel_rfl) (by kernel_rfl) (by kernel_rfl) (fun _ _ _ h => h) (Or.inl ⟨rfl, fun V hV => by go_simp⟩) trivial ?_
    refine wpAnyH_ready (rs := [10]) (by kernel_rfl) (by simp) (AllReadyH.cons rfl (fun K hK => ?_) AllReadyH.nil)
    go_simp
    refine hK.out _ _ trivial (fun _ => ?_)
    clear hK K
    refine wpAnyH_done (by kernel_rfl) ?_ _
    have hE4 := HE3.out.setAct f
    have f13 := hE4.fz 13
    have c13 := hE4.c13
    obtain ⟨V1, hV1⟩ : ∃ V1, (w3.setCell ⟨E, 12, none⟩ (.int .i64 f)).setCell ⟨E, 13, none⟩ (.int .i64 0) = V1 := ⟨_, rfl⟩
    have hE5 : EngAt V1 E C S b W Dm (.slice (some ⟨gt, 0, none⟩) n tc) q f 0 o hs := by rw [← hV1]; exact hE4.setUsed 0
    have kV : Kept (fun g => g = E) w3 V1 := by rw [← hV1]; exact (Kept.setCell _ ⟨E, 12, none⟩ _ (fun g => g = E) rfl).trans (Kept.setCell _ ⟨E, 13, none⟩ _ (fun g => g = E) rfl)
    have kdV : Kd (fun g => g = E) W1 V1 := (Kd.of_below HBC.out).trans (Kd.of_kept kV fun g hg => .inl hg)
    have hT5 : TAt B V1 gt tc n es := HT.out.kd kdV HNT.out.2.2
    have hD5 : DS B V1 C nb M 256 rd := by
      obtain ⟨xs, ws, da, dc, wa, wc, D, hc, h1, h2, h3⟩ := HD1.out
      have hc3 := hc.below HBC.out
      refine ⟨xs, ws, da, dc, wa, wc, D, ?_, h1, h2, h3⟩
      rw [← hV1]
      exact (hc3.setE HE3.out 12 _).setE hE4 13 _
    have k5 : V1.heap[w.heap.size]? = some (.cells (u8s X).toArray 74 (0, 0)) := by
      have l := (Array.getElem?_eq_some_iff.1 HK1.out).1
      have h3 := (HBC.out.block _ l).trans HK1.out
      refine (kV.block _ (Array.getElem?_eq_some_iff.1 h3).1 (fun e => ?_)).trans h3
      have := HE3.out
      unfold EngAt at this
      rw [e, this] at h3
      injection h3 with h3
      injection h3 with _ e2
      exact absurd e2 (by decide)
    have HB1 : Hid (Below B w V1 ∧ Kd (fun g => g = C ∨ g = M ∨ g = E ∨ g = gt) w V1) := ⟨(HB1.out.1.trans (HBC.out.mono (by omega))).trans (kV.below (by have := HBC.out.size; omega) (fun g hg => by rw [hg]; exact hB)), HB1.out.2.trans (kdV.mono fun g hg => .inr (.inr (.inl hg)))⟩
    have c1 := hE5.c1
    have c2 := hE5.c2
    have c5 := hE5.c5
    have d12 := hE5.c12
    have d13 := hE5.c13
    have HT := Lib.hid hT5
    have hlE5 := hE5.lt
    have HW : Hid (∀ d, Calls Tryz.prog 92 #[.pointer (some ⟨E, 0, none⟩), .int .i64 (logN S b + p), .agg (u8s X).toArray] (V1.drewN d) fun e w' => (∃ v, e = .returned v) ∧ ∃ o', o ≤ o' ∧ o' ≤ o + 2 ∧ EOp B (V1.drewN d) w' E C nb M 256 S b W Dm (.slice (some ⟨gt, 0, none⟩) n tc) q f 0 o' hs (updR rd (logN S b + p) X)) := fun d => ewrite_any B E C nb M S b W Dm _ q f 0 o hs rd (logN S b + p) X (V1.drewN d) (hE5.drew d) (hD5.drew d) hB ho ho' hX (by omega) (by omega) (by omega)
    have rng := range_of_heap k5
    clear hE4 hE5 kV kdV hT5 hD5 k5 HD1 HK1 HE1 HE2 HE3 HR HBB HBC HFS HCN hv
    clear c12 f12
    generalize hLL : logN (S : Int) b = L at *
    have HLL := Lib.hid hLL
    clear hLL
    have hm1 : -9223372036854775808 ≤ p := by omega
    go_wp2
    go_quiet (fail)
    go_wp2_with (first
      | (refine wpList_load_mid rfl 74 _ rfl w.heap.size 0 rfl (u8s X) _ rng Tryz.underlying74 rfl (by rw [hXl]; exact infoBB) ?_)
      | fail)
    refine (HW.out _).mono ?_
    rintro e w7 ⟨⟨v, rfl⟩, o', ho1, ho2, hE7, hD7, hb7, hk7⟩
    have HB7 : Hid (Below B w w7 ∧ Kd (fun g => g = C ∨ g = M ∨ g = E ∨ g = gt) w w7) := ⟨(below_drewN HB1.out.1 _).trans hb7, (HB1.out.2.trans (Kd.of_below (below_drewN (Below.refl _ _) _))).trans (hk7.mono fun g hg => hg.elim .inl (fun x => x.elim (fun y => .inr (.inl y)) (fun y => .inr (.inr (.inl y)))))⟩
    have hT7 : TAt B w7 gt tc n es := (HT.out.drew _).kd hk7 (fun x => by
      obtain ⟨n1, n2, n3⟩ := HNT.out
      rcases x with x | x | x
      · exact n1 x
      · exact n2 x
      · exact n3 x)
    obtain ⟨W8, hW8⟩ : ∃ W8, w7.setCell ⟨E, 13, none⟩ (.int .i64 1) = W8 := ⟨_, rfl⟩
    have hE8 : EngAt W8 E C S b W Dm (.slice (some ⟨gt, 0, none⟩) n tc) q f 1 o' hs := by rw [← hW8]; exact hE7.setUsed 1
    have hk8 : Kept (fun g => g = E) w7 W8 := by rw [← hW8]; exact Kept.setCell w7 ⟨E, 13, none⟩ _ (fun g => g = E) rfl
    have hkd8 : Kd (fun g => g = C ∨ g = M ∨ g = E ∨ g = gt) w7 W8 := Kd.of_kept hk8 fun g hg => .inl (.inr (.inr (.inl hg)))
    have hT8 : TAt B W8 gt tc n es := hT7.kd (S := fun g => g = E) (Kd.of_kept hk8 fun g hg => .inl hg) HNT.out.2.2
    have c13 := hE7.c13
    have f13 := hE7.fz 13
    have d10 := hE8.c10
    have HW0 : Hid (∀ d, EApp B w (((W8.drewN d).setCell ⟨gt, (lid - 1) * 2, none⟩ (.int .i64 (L + p))).setCell ⟨gt, (lid - 1) * 2 + 1, none⟩ (.bool ino)) E C nb M S b W Dm gt tc n (es.set (lid - 1) (L + p, ino)) q f 1 o' hs (updR rd (L + p) X)) := fun d => by
      have hT4 := (hT8.drew d).set (lid - 1) (by omega) (L + p) ino
      have kk : Kept (fun g => g = gt) (W8.drewN d) (((W8.drewN d).setCell ⟨gt, (lid - 1) * 2, none⟩ (.int .i64 (L + p))).setCell ⟨gt, (lid - 1) * 2 + 1, none⟩ (.bool ino)) := (Kept.setCell _ ⟨gt, _, none⟩ _ (fun g => g = gt) rfl).trans (Kept.setCell _ ⟨gt, _, none⟩ _ (fun g => g = gt) rfl)
      have kd : Kd (fun g => g = gt) (W8.drewN d) _ := Kd.of_kept kk fun g hg => .inl hg
      obtain ⟨n1, n2, n3⟩ := HNT.out
      have hcd : ∀ {xs ws dv wv D}, CD B w7 C nb xs ws dv wv M D → CD B (((W8.drewN d).setCell ⟨gt, (lid - 1) * 2, none⟩ (.int .i64 (L + p))).setCell ⟨gt, (lid - 1) * 2 + 1, none⟩ (.bool ino)) C nb xs ws dv wv M D := fun {xs ws dv wv D} hc => by
        have h3 : CD B W8 C nb xs ws dv wv M D := by rw [← hW8]; exact hc.setE hE7 13 _
        obtain ⟨cur, htg⟩ := hT8.tag
        refine (h3.below (below_drewN (Below.refl _ _) d)).kept kk (fun g hg e => ?_)
        subst e
        rcases hg with e | e | e | e
        · exact n1 e
        · exact n2 e
        · exact h3.neD htg (by decide) e
        · exact h3.neW htg (by decide) e
      have hlt : gt < (W8.drewN d).heap.size := by obtain ⟨cur, htg⟩ := hT8.tag; exact (Array.getElem?_eq_some_iff.1 htg).1
      have hBg : B ≤ gt := (hT8.lt gt rfl).1
      have hbl : Below B w7 W8 := hk8.below (by have := hE7.lt; omega) (fun g hg => by rw [hg]; exact hB)
      refine ⟨kd.eng (hE8.drew d) (fun e => n3 e.symm), ?_, hT4, (HB7.out.1.trans hbl).trans ((below_drewN (Below.refl _ _) d).trans (kk.below (Nat.le_trans hBg (Nat.le_of_lt hlt)) (fun g hg => by rw [hg]; exact hBg))), (HB7.out.2.trans hkd8).trans ((Kd.of_below (below_drewN (Below.refl _ _) d)).trans (kd.mono fun g hg => .inr (.inr (.inr hg))))⟩
      obtain ⟨xs, ws, da, dc, wa, wc, D, hc, h1, h2, h3⟩ := hD7
      exact ⟨xs, ws, da, dc, wa, wc, D, hcd hc, h1, h2, h3⟩
    have tcell : (W8.cell? ⟨gt, (lid - 1) * 2, none⟩ = some (.int .i64 (eA es (lid - 1))) ∧ W8.frozen? ⟨gt, (lid - 1) * 2, none⟩ = false) ∧ W8.cell? ⟨gt, (lid - 1) * 2 + 1, none⟩ = some (.bool (eI es (lid - 1))) ∧ W8.frozen? ⟨gt, (lid - 1) * 2 + 1, none⟩ = false := by
      obtain ⟨a', c', e', he⟩ := owns_e hT8
      injection e' with e1' e2' e3'
      subst e1'
      rcases he.2 with h0 | ⟨g', off', e4, _, hcell⟩
      · omega
      injection e4 with e4
      injection e4 with e5 e6
      subst e5; subst e6
      have := hcell (lid - 1) (by omega)
      rw [Nat.zero_add] at this
      exact this
    obtain ⟨⟨t1, t2⟩, t3, t4⟩ := tcell
    have hlid : ((lid : Int) - 1).toNat = lid - 1 := by omega
    have hli0 : (0 : Int) ≤ (lid : Int) - 1 := by omega
    have hli1 : (lid : Int) - 1 < (n : Int) := by omega
    clear hE7 hD7 hb7 hk7 hT7 hk8 hkd8 hT8 hE8 HW HT HB1 HNT rng
    go_wp2
    go_end0
    rw [HLL.out]
    exact ⟨⟨_, rfl⟩, o', ho1, ho2, HW0.out 0⟩
end Go.Proofs.YtonpdbajoidigaaGreatDoor

/-
  FnSpace: a block more, whatever the segment.
-/
namespace Go.Proofs.YtonpdbajoidigaaGreatDoor
open Go.RowKit
set_option linter.unusedSimpArgs false
set_option linter.unusedVariables false

section
variable {L b : Int} {S n : Nat} {es : List (Int × Bool)} {a u : Int}
theorem addr_in {j : Nat} {v : Int} (hb : 0 < b) (hj : j < S) (hv0 : 0 ≤ v) (hv1 : v < b) : L ≤ L + (j : Int) * b + v ∧ L + (j : Int) * b + v < L + (S : Int) * b := by
  have h1 : 0 ≤ (j : Int) * b := Int.mul_nonneg (by omega) (by omega)
  have h2 : ((j : Int) + 1) * b ≤ (S : Int) * b := Int.mul_le_mul_of_nonneg_right (by omega) (by omega)
  rw [Int.add_mul] at h2
  omega
theorem inv_set (hL : 1 ≤ L) (hb : 0 < b) (h : TInv L b S n es a u) {k j : Nat} (hk : k < n) {v : Int} (hj : j < S) (hv0 : 0 ≤ v) (hv1 : v < b) (ino : Bool) (hlow : ∀ i, i < n → segB L b j (eA es i) = true → eA es i < L + (j : Int) * b + v) : TInv L b S n (es.set k (L + (j : Int) * b + v, ino)) (j : Int) (v + 1) := by
  refine ⟨by rw [List.length_set]; exact h.len, fun i hi hne => ?_, .inr ⟨j, rfl, hj, by omega, by omega, fun i hi hs => ?_⟩⟩
  · rw [eA_set es k i _ _ (by rw [h.len]; exact hk)] at hne ⊢
    by_cases e : i = k
    · rw [if_pos e]; exact addr_in hb hj hv0 hv1
    · rw [if_neg e] at hne ⊢; exact h.log i hi hne
  · rw [eA_set es k i _ _ (by rw [h.len]; exact hk)] at hs ⊢
    by_cases e : i = k
    · rw [if_pos e]; omega
    · rw [if_neg e] at hs ⊢; have := hlow i hi hs; omega
theorem fresh_of (hb : 0 < b) {j : Nat} {v : Int} (hv0 : 0 ≤ v) (hv1 : v < b) (hlow : ∀ i, i < n → segB L b j (eA es i) = true → eA es i < L + (j : Int) * b + v) : ∀ i, i < n → eA es i ≠ L + (j : Int) * b + v := fun i hi e => by
  have h1 : segB L b j (eA es i) = true := by rw [e, segB_own hb hv0 hv1]; simp
  have := hlow i hi h1
  omega
theorem frS_keep (hL : 1 ≤ L) (hb : 0 < b) (hl : es.length = n) {k j : Nat} (hk : k < n) (h0 : eA es k = 0) {v : Int} (hj : j < S) (hv0 : 0 ≤ v) (hv1 : v < b) (ino : Bool) : frS (segL L b (es.set k (L + (j : Int) * b + v, ino)) S n) (j : Int) (v + 1) b S = frS (segL L b es S n) (j : Int) v b S - 1 := by
  have e : frN (segL L b (es.set k (L + (j : Int) * b + v, ino)) S n) (j : Int) S = frN (segL L b es S n) (j : Int) S := by
    rw [frN_R, frN_R]
    refine cntR_same (fun i hi => ?_)
    rw [fit_at i hi, fit_at i hi, cnt_set hL hb hl hk h0 hv0 hv1 ino i]
    by_cases e : i = j
    · subst e; simp
    · rw [if_neg e, Nat.add_zero]
  unfold frS fr0
  rw [e, if_neg (by omega), if_neg (by omega)]
  omega
theorem frS_new (hL : 1 ≤ L) (hb : 0 < b) (hl : es.length = n) {k j : Nat} (hk : k < n) (h0 : eA es k = 0) (hj : j < S) (hf : fitF (segL L b es S n) a j = true) (hz : fr0 a u b = 0) (ino : Bool) : frS (segL L b es S n) a u b S - 1 ≤ frS (segL L b (es.set k (L + (j : Int) * b + 0, ino)) S n) (j : Int) (0 + 1) b S := by
  have e : frN (segL L b es S n) a S ≤ frN (segL L b (es.set k (L + (j : Int) * b + 0, ino)) S n) (j : Int) S + 1 := by
    rw [frN_R, frN_R]
    refine cntR_le1 j (fun i hi hne hp => ?_)
    rw [fit_at i hi] at hp ⊢
    rw [cnt_set hL hb hl hk h0 (Int.le_refl 0) hb ino i, if_neg hne, Nat.add_zero]
    simp only [Bool.and_eq_true, decide_eq_true_iff] at hp ⊢
    exact ⟨by omega, hp.2⟩
  have hm : (frN (segL L b es S n) a S : Int) * b ≤ ((frN (segL L b (es.set k (L + (j : Int) * b + 0, ino)) S n) (j : Int) S : Int) + 1) * b := Int.mul_le_mul_of_nonneg_right (by omega) (by omega)
  rw [Int.add_mul] at hm
  unfold frS
  rw [hz]
  unfold fr0
  rw [if_neg (by omega)]
  omega
theorem free_fit (hF : 1 ≤ frS (segL L b es S n) a u b S) (hz : fr0 a u b = 0) (hb : 0 < b) : ∃ j : Nat, j < S ∧ freeN (segL L b es S n) a S = (j : Int) ∧ fitF (segL L b es S n) a j = true := by
  have h1 : 1 ≤ frN (segL L b es S n) a S := by
    rcases Nat.eq_zero_or_pos (frN (segL L b es S n) a S) with h | h
    · unfold frS at hF
      rw [hz, h] at hF
      simp at hF
    · exact h
  rw [frN_R] at h1
  obtain ⟨i, hi, hp⟩ := cntR_pos h1
  rcases best_free (segL L b es S n) a S with ⟨_, hno⟩ | ⟨j, hj, e, hf, _⟩
  · rw [hno i hi] at hp; cases hp
  · exact ⟨j, hj, e, hf⟩
theorem fit_low {j : Nat} (hj : j < S) (hf : fitF (segL L b es S n) a j = true) : ∀ i, i < n → segB L b j (eA es i) = true → eA es i < L + (j : Int) * b + 0 := fun i hi hs => by
  rw [fit_at j hj] at hf
  simp only [Bool.and_eq_true, decide_eq_true_iff] at hf
  have h := hf.2
  rw [cntS_R] at h
  have := cntR_zero h i hi
  rw [this] at hs
  cases hs
end
/-- The engine behind a block appended: where it lies and what is left. -/
def EPut (B : Nat) (w w' : World) (E C nb M : Nat) (S : Nat) (b : Int) (W Dm gt tc n k : Nat) (es : List (Int × Bool)) (q a u o : Int) (hs : List Value) (rd : Int → List Int) (X : List Int) (ino : Bool) : Prop :=
  ∃ (o' v : Int) (j : Nat), o ≤ o' ∧ o' ≤ o + 2 ∧ j < S ∧ 0 ≤ v ∧ v < b ∧ (∀ i, i < n → eA es i ≠ logN S b + (j : Int) * b + v) ∧ TInv (logN S b) b S n (es.set k (logN S b + (j : Int) * b + v, ino)) (j : Int) (v + 1) ∧ frS (segL (logN S b) b es S n) a u b S - 1 ≤ frS (segL (logN S b) b (es.set k (logN S b + (j : Int) * b + v, ino)) S n) (j : Int) (v + 1) b S ∧ EApp B w w' E C nb M S b W Dm gt tc n (es.set k (logN S b + (j : Int) * b + v, ino)) q (j : Int) (v + 1) o' hs (updR rd (logN S b + (j : Int) * b + v) X)
theorem append_one (B E C nb M : Nat) (S : Nat) (b : Int) (W Dm gt tc n : Nat) (es : List (Int × Bool)) (q a u o : Int) (hs : List Value) (rd : Int → List Int) (lid : Nat) (X : List Int) (ino : Bool) (w : World)
    (hE : EngAt w E C S b W Dm (.slice (some ⟨gt, 0, none⟩) n tc) q a u o hs) (hD : DS B w C nb M 256 rd) (hT : TAt B w gt tc n es) (hB : B ≤ E) (hv : vG (S : Int) b = true) (hnb : (nb : Int) = logN S b + S * b) (hn : n ≤ 4096) (hX : X.length = 64) (hl : 1 ≤ lid) (hl' : lid ≤ n) (ho : 0 ≤ o) (ho' : o ≤ 2305843009213693952)
    (hI : TInv (logN S b) b S n es a u) (h0 : eA es (lid - 1) = 0) (hF : 1 ≤ frS (segL (logN S b) b es S n) a u b S) :
    Calls Tryz.prog 81 #[.pointer (some ⟨E, 0, none⟩), .int .i64 lid, .agg (u8s X).toArray, .bool ino] w fun e w' => (∃ v, e = .returned v) ∧ EPut B w w' E C nb M S b W Dm gt tc n (lid - 1) es q a u o hs rd X ino := by
  have hg := vG_bounds hv
  have hL := (logN_bounds hv).1
  have new : (hz : fr0 a u b = 0) → (∀ f : Int, freeN (segL (logN S b) b es S n) a S = f → 0 ≤ f → f < S → Calls Tryz.prog 81 #[.pointer (some ⟨E, 0, none⟩), .int .i64 lid, .agg (u8s X).toArray, .bool ino] w fun e w' => (∃ v, e = .returned v) ∧ ∃ o', o ≤ o' ∧ o' ≤ o + 2 ∧ EApp B w w' E C nb M S b W Dm gt tc n (es.set (lid - 1) (logN S b + f * b, ino)) q f 1 o' hs (updR rd (logN S b + f * b) X)) → Calls Tryz.prog 81 #[.pointer (some ⟨E, 0, none⟩), .int .i64 lid, .agg (u8s X).toArray, .bool ino] w fun e w' => (∃ v, e = .returned v) ∧ EPut B w w' E C nb M S b W Dm gt tc n (lid - 1) es q a u o hs rd X ino := fun hz hcall => by
    obtain ⟨j, hj, hf, hfit⟩ := free_fit hF hz (by omega)
    refine (hcall j hf (by omega) (by omega)).mono ?_
    rintro e w' ⟨h1, o', h2, h3, h4⟩
    have e0 : logN (S : Int) b + (j : Int) * b = logN (S : Int) b + (j : Int) * b + 0 := by omega
    have hlow := fit_low hj hfit
    rw [e0] at h4
    exact ⟨h1, o', 0, j, h2, h3, hj, Int.le_refl 0, by omega, fresh_of (by omega) (Int.le_refl 0) (by omega) hlow, inv_set (by omega) (by omega) hI (by omega) hj (Int.le_refl 0) (by omega) ino hlow, frS_new (by omega) (by omega) hI.len (by omega) h0 hj hfit hz ino, h4⟩
  rcases hI.act with ⟨ha, _⟩ | ⟨j, ha, hj, hu0, hu1, hlow⟩
  · exact new (by rw [fr0, if_pos ha]) (fun f hf h1 h2 => append_newA B E C nb M S b W Dm gt tc n es q a u o f hs rd lid X ino w hE hD hT hB hv hnb hn hX hl hl' ho ho' ha hf h1 h2)
  · by_cases hub : u = b
    · exact new (by rw [fr0, if_neg (by omega), hub]; omega) (fun f hf h1 h2 => append_newB B E C nb M S b W Dm gt tc n es q a u o f hs rd lid X ino w hE hD hT hB hv hnb hn hX hl hl' ho ho' (by omega) hub hf h1 h2)
    · refine (append_tail B E C nb M S b W Dm gt tc n es q a u o hs rd lid X ino w hE hD hT hB hv hnb hn hX hl hl' ho ho' (fun h => by omega) (by omega) (by omega) hu0 (by omega)).mono ?_
      rintro e w' ⟨h1, o', h2, h3, h4⟩
      subst ha
      exact ⟨h1, o', u, j, h2, h3, hj, hu0, by omega, fresh_of (by omega) hu0 (by omega) hlow, inv_set (by omega) (by omega) hI (by omega) hj hu0 (by omega) ino hlow, Int.le_of_eq (frS_keep (by omega) (by omega) hI.len (by omega) h0 hj hu0 (by omega) ino).symm, h4⟩
end Go.Proofs.YtonpdbajoidigaaGreatDoor
