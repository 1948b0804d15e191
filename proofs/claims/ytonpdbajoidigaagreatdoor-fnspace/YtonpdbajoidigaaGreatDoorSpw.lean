/-
  FnSpace: a checkpoint.
-/
import Derived.Test.YtonpdbajoidigaaGreatDoorGt
namespace Go.Proofs.YtonpdbajoidigaaGreatDoor
open Go.RowKit
set_option linter.unusedSimpArgs false
set_option linter.unusedVariables false

def rsN (q T : Int) : Int := if q % 2 = 0 then 0 else 1 + T
set_option maxRecDepth 100000 in
theorem regionStart_gen (q x0 T x2 x3 x4 : Int) (w : World) (hq : 0 ≤ q) (hq' : q ≤ 4611686018427387904) (h0 : 0 ≤ T) (h1 : T ≤ 33) :
    Calls Tryz.prog 16 #[.int .i64 q, .agg #[.int .i64 x0, .int .i64 T, .int .i64 x2, .int .i64 x3, .int .i64 x4]] w fun e w' => e = .returned (.int .i64 (rsN q T)) ∧ Below w.heap.size w w' := by
  have ht : q.tmod 2 = q % 2 := Int.tmod_eq_emod_of_nonneg hq
  rcases (show q % 2 = 0 ∨ q % 2 = 1 by omega) with h | h
  · rw [h] at ht
    have HR : Hid (rsN q T = 0) := by show _ = _; rw [rsN, if_pos h]
    clear h
    go_enter Tryz.func16, Tryz.ntmps16
    go_wp2
    go_ret
    exact ⟨ret_int HR.out.symm, (Below.refl _ _).alloc (Nat.le_refl _) _⟩
  · rw [h] at ht
    have HR : Hid (rsN q T = 1 + T) := by show _ = _; rw [rsN, if_neg (by omega)]
    clear h
    go_enter Tryz.func16, Tryz.ntmps16
    go_wp2
    go_ret
    exact ⟨ret_int (by rw [HR.out]), (Below.refl _ _).alloc (Nat.le_refl _) _⟩
theorem range_mid {w : World} {p : Nat} {Y : List Int} {t : TypeId} {f : Nat × Nat} (h : w.heap[p]? = some (.cells (u8s Y).toArray t f)) (o : Nat) : w.rangeAt p o (u8s ((Y.drop o).take 64)) := fun j v hv => by
  rw [World.cell?, h]
  simp only [u8s, List.getElem?_map, List.getElem?_take] at hv
  split at hv
  · rw [List.getElem?_drop] at hv
    simpa [u8s] using hv
  · simp at hv
/-- The table's blocks written. -/
structure CK (B : Nat) (w0 w : World) (E C nb M : Nat) (s b : Int) (W Dm : Nat) (tb : Value) (q a u o0 : Int) (hs : List Value) (rd0 : Int → List Int) (L : Int) (k : Nat) : Prop where
  st : ∃ o rd, EngAt w E C s b W Dm tb q a u o hs ∧ DS B w C nb M 256 rd ∧ o0 ≤ o ∧ o ≤ o0 + 2 * k ∧ ∀ x, L ≤ x → rd x = rd0 x
  bel : Below B w0 w
  kd : Kd (fun g => g = C ∨ g = M ∨ g = E) w0 w
theorem DS.more {B : Nat} {w : World} {C nb M m m' : Nat} {rd : Int → List Int} (h : DS B w C nb M m rd) (hm : m ≤ m') : DS B w C nb M m' rd := by
  obtain ⟨xs, ws, da, dc, wa, wc, D, hc, h1, h2, h3⟩ := h
  exact ⟨xs, ws, da, dc, wa, wc, D, hc, by omega, h2, h3⟩
theorem DS.neTag {B : Nat} {w : World} {C nb M m : Nat} {rd : Int → List Int} (h : DS B w C nb M m rd) {p : Nat} {c : Array Value} {t : TypeId} {f : Nat × Nat} (hp : w.heap[p]? = some (.cells c t f)) (h1 : t ≠ 91) : p ≠ C ∧ p ≠ M := by
  obtain ⟨xs, ws, da, dc, wa, wc, D, hc, _⟩ := h
  exact hc.neTag hp h1
theorem DS.lts {B : Nat} {w : World} {C nb M m : Nat} {rd : Int → List Int} (h : DS B w C nb M m rd) : C < w.heap.size ∧ M < w.heap.size := by
  obtain ⟨xs, ws, da, dc, wa, wc, D, hc, _⟩ := h
  exact ⟨hc.ltC, hc.ltM⟩
theorem DS.setE {B : Nat} {w : World} {C nb M m : Nat} {rd : Int → List Int} (h : DS B w C nb M m rd) {E : Nat} {c : Array Value} (hE : w.heap[E]? = some (.cells c 68 (0, 0))) (i : Nat) (v : Value) : DS B (w.setCell ⟨E, i, none⟩ v) C nb M m rd := by
  obtain ⟨xs, ws, da, dc, wa, wc, D, hc, h1⟩ := h
  exact ⟨xs, ws, da, dc, wa, wc, D, hc.setE hE i v, h1⟩
theorem encT_fit (es : List (Int × Bool)) (n : Nat) (h : es.length = n) : (encT es).length ≤ 2 * n := by
  unfold encT
  split
  · rw [eBytes_len]; omega
  · simp
theorem hdr_okS {q s b : Int} (h : vG s b = true) (h1 : 1 ≤ q) (h2 : q ≤ 100000) : hdrB q s b = true := by
  obtain ⟨h1, h2, h3, h4⟩ := vG_yes h
  simp [hdrB, partB]; omega
theorem copy_any8 (w : World) (g n cap : Nat) (Y : List Int) (t : TypeId) (sa : Option Addr) (sc B0 : Nat) (en : List Int) (hg : w.heap[g]? = some (.cells (u8s Y).toArray t (0, 0))) (hY : Y.length = n) (own : w.ownsRow B0 5 1 (.slice sa en.length sc) en.length (u8s en)) (hle : en.length ≤ n) :
    ∃ w', (∀ ty, (Builtin.copy_ #[22, 22] ty #[.slice (some ⟨g, 0, none⟩) n cap, .slice sa en.length sc]).run Tryz.prog w = .ok (goInt en.length) w') ∧ (∃ Y' : List Int, Y'.length = n ∧ w'.heap[g]? = some (.cells (u8s Y').toArray t (0, 0))) ∧ Kept (fun x => x = g) w w' := by
  by_cases h0 : en.length = 0
  · refine ⟨w, fun ty => ?_, ⟨Y, hY, hg⟩, Kept.refl _ _⟩
    have := run_copy_none (P := Tryz.prog) w 22 22 ty 5 (some ⟨g, 0, none⟩) sa n cap en.length sc Tryz.underlying22 info5s (by rw [h0]; exact Nat.zero_min _)
    rw [this, h0]
    rfl
  · obtain ⟨ad, rfl, hsrc⟩ := owns_pos own (by omega)
    refine ⟨w.setRow g (u8s (en ++ Y.drop en.length)).toArray, fun ty => ?_, ⟨en ++ Y.drop en.length, by simp; omega, setRow_heap w g _ _ t _ hg⟩, kept_setRow w g _⟩
    have := run_copy_row (P := Tryz.prog) w 22 22 ty 5 g 0 n cap ad en.length sc (u8s Y).toArray t (u8s en) Tryz.underlying22 info5s hg (by rw [u8s_len]; exact (Nat.min_eq_left hle).symm) hsrc (by rw [List.size_toArray, u8s_len, u8s_len]; omega) (many_u8 _)
    have e : ((u8s Y).toArray.toList.take 0 ++ u8s en ++ (u8s Y).toArray.toList.drop (0 + (u8s en).length)).toArray = (u8s (en ++ Y.drop en.length)).toArray := by simp [u8s]
    rw [this, e, u8s_len]
/-- The engine behind a checkpoint. -/
def CPost (B : Nat) (w w' : World) (E C nb M : Nat) (S : Nat) (b : Int) (W Dm gt tc n : Nat) (q a u o : Int) (hs : List Value) (rd : Int → List Int) : Prop :=
  ∃ o' rd', EngAt w' E C S b W Dm (.slice (some ⟨gt, 0, none⟩) n tc) (q + 1) a u o' hs ∧ DS B w' C nb M 256 rd' ∧ o ≤ o' ∧ o' ≤ o + 80 ∧ (∀ x, logN S b ≤ x → rd' x = rd x) ∧ Below B w w' ∧ Kd (fun g => g = C ∨ g = M ∨ g = E) w w'
set_option maxRecDepth 100000 in
set_option maxHeartbeats 4000000 in
theorem checkpoint_any (B E C nb M : Nat) (S : Nat) (b : Int) (W Dm gt tc n : Nat) (es : List (Int × Bool)) (q a u o : Int) (hs : List Value) (rd : Int → List Int) (r : Nat) (ps : List FP) (w : World)
    (hE : EngAt w E C S b W Dm (.slice (some ⟨gt, 0, none⟩) n tc) q a u o hs) (hD : DS B w C nb M 256 rd) (hT : TAt B w gt tc n es) (hB : B ≤ E) (hv : vG (S : Int) b = true) (hnb : (nb : Int) = logN S b + S * b) (hn : (n : Int) = S * b) (ho : 0 ≤ o) (ho' : o ≤ 1000000000) (hq : 1 ≤ q) (hq' : q ≤ 1000) (hM : MF w r (ps.map (·.1))) (hok : ∀ p ∈ ps, FOk w n p) :
    Calls Tryz.prog 52 #[.pointer (some ⟨E, 0, none⟩), .agg #[.map (some r)]] w fun e w' => (∃ v, e = .returned v) ∧ CPost B w w' E C nb M S b W Dm gt tc n q a u o hs rd := by
  obtain ⟨i0, hi, hz0, hz1, hz2⟩ := info_parts info5
  have hm := vG_mul hv
  obtain ⟨T, hT'⟩ : ∃ T : Nat, nblk (2 * ((S : Int) * b)) = (T : Int) := ⟨(nblk (2 * ((S : Int) * b))).toNat, by unfold nblk; omega⟩
  have hT1 : 1 ≤ T ∧ T ≤ 33 ∧ 2 * n ≤ T * 64 := by unfold nblk at hT'; omega
  have hLL : logN (S : Int) b = 2 * (1 + (T : Int)) := by unfold logN; rw [hT']
  obtain ⟨W0, hW0⟩ : ∃ W0, w.alloc (.cells #[.map (some r)] 60) = W0 := ⟨_, rfl⟩
  have hb0 : Below w.heap.size w W0 := by rw [← hW0]; exact (Below.refl _ _).alloc (Nat.le_refl _) _
  have hE0 : EngAt W0 E C S b W Dm (.slice (some ⟨gt, 0, none⟩) n tc) q a u o hs := (hb0.block E hE.lt).trans hE
  have k0 : W0.heap[w.heap.size]? = some (.cells #[.map (some r)] 60 (0, 0)) := by rw [← hW0]; exact heap_alloc_new w _
  obtain ⟨W1, hW1⟩ : ∃ W1, W0.setCell ⟨E, 11, none⟩ (.int .i64 (q + 1)) = W1 := ⟨_, rfl⟩
  have hk1 : Kept (fun g => g = E) W0 W1 := by rw [← hW1]; exact Kept.setCell _ ⟨E, _, none⟩ _ (fun g => g = E) rfl
  have hE1 : EngAt W1 E C S b W Dm (.slice (some ⟨gt, 0, none⟩) n tc) (q + 1) a u o hs := by rw [← hW1]; exact hE0.setSeq (q + 1)
  have hD1 : DS B W1 C nb M 256 rd := by rw [← hW1]; exact (hD.kd (S := fun _ => False) hb0).setE hE0 11 _
  have hgE : gt ≠ E := fun e => by obtain ⟨cur, hc⟩ := hT.tag; unfold EngAt at hE; rw [e, hE] at hc; cases hc
  have hTT1 : TAt B W1 gt tc n es := (hT.kd (S := fun _ => False) (Kd.of_below hb0) id).kd (S := fun g => g = E) (Kd.of_kept hk1 fun g hg => .inl hg) hgE
  have hrE : E ≠ r := hM.neE hE
  have hM1 : MF W1 r (ps.map (·.1)) := (hM.kd (S := fun _ => False) (Kd.of_below hb0) id).kd (S := fun g => g = E) (Kd.of_kept hk1 fun g hg => .inl hg) (fun e => hrE e.symm)
  have hok1 : ∀ p ∈ ps, FOk W1 n p := fun p hp => by
    have h := (hok p hp).below hb0
    obtain ⟨⟨g, h1, h2⟩, h3, h4⟩ := h
    exact ⟨⟨g, h1, h2.of_block (hk1.block g h2.lt (fun e => by obtain ⟨_, _, cur, hc⟩ := h2; unfold EngAt at hE0; rw [e, hE0] at hc; cases hc))⟩, h3, h4⟩
  have k1 : W1.heap[w.heap.size]? = some (.cells #[.map (some r)] 60 (0, 0)) := (hk1.block _ (Array.getElem?_eq_some_iff.1 k0).1 (fun e => by have := hE.lt; omega)).trans k0
  have x0 := cell_oneB k1
  have HB1 : Hid (Below B w W1 ∧ Kd (fun g => g = C ∨ g = M ∨ g = E) w W1) := ⟨(hb0.mono (by have := hE.lt; omega)).trans (hk1.below (by have := hE0.lt; omega) (fun g hg => by rw [hg]; exact hB)), (Kd.of_below hb0).trans (Kd.of_kept hk1 fun g hg => .inl (.inr (.inr hg)))⟩
  have HNB := Lib.hid hnb
  have HNN := Lib.hid hn
  have HHB := Lib.hid (headerBlock_any (q + 1) S b · (hdr_okS hv (by omega) (by omega)))
  have HV := Lib.hid hv
  have HLL := Lib.hid hLL
  have hgb := vG_bounds hv
  have e11 := hE0.c11
  have f11 := hE0.fz 11
  have c11 := hE1.c11
  have c1 := hE1.c1
  have c2 := hE1.c2
  have c3 := hE1.c3
  have c4 := hE1.c4
  have c5 := hE1.c5
  have c6 := hE1.c6
  have c7 := hE1.c7
  have hlE0 := hE0.lt
  have hlE1 := hE1.lt
  have hlw1 : w.heap.size < W1.heap.size := (Array.getElem?_eq_some_iff.1 k1).1
  have HST := Lib.hid (And.intro hE1 (And.intro hD1 (And.intro hTT1 (And.intro hM1 hok1))))
  rw [hT'] at c4
  rw [hLL] at c5 c6
  have hn1024 : n ≤ 1024 ∧ 8 ≤ n := by omega
  obtain ⟨P, hP⟩ : ∃ P, (S : Int) * b = P := ⟨_, rfl⟩
  rw [hP] at c3 c6 c7
  have hP0 : 8 ≤ P ∧ P ≤ 1024 := by omega
  clear hE hD hT hv hnb hn hLL hT' hM hok hb0 hE0 k0 hk1 hE1 hD1 hTT1 hM1 hok1 k1 hP hm hgE hrE
  obtain ⟨rs, hrs⟩ : ∃ rs, rsN (q + 1) (T : Int) = rs := ⟨_, rfl⟩
  have hrs0 : 0 ≤ rs ∧ rs ≤ 1 + (T : Int) := by rw [← hrs]; unfold rsN; split <;> omega
  have HRG : Hid (Calls Tryz.prog 16 #[.int .i64 (q + 1), .agg #[.int .i64 P, .int .i64 T, .int .i64 (2 * (1 + (T : Int))), .int .i64 (2 * (1 + (T : Int)) + P), .int .i64 (P - 2 * b)]] W1.drew fun e w' => e = .returned (.int .i64 rs) ∧ Below W1.heap.size W1 w') := (regionStart_gen (q + 1) P T (2 * (1 + (T : Int))) (2 * (1 + (T : Int)) + P) (P - 2 * b) W1.drew (by omega) (by omega) (by omega) (by omega)).mono fun e w' ⟨h1, h2⟩ => ⟨by rw [h1, hrs], (Below.refl _ _).drew.trans h2⟩
  clear hrs
  obtain ⟨hT1, hT33, hTn⟩ := hT1
  obtain ⟨hrs0, hrs1⟩ := hrs0
  go_enter Tryz.func52, Tryz.ntmps52
  go_wp2_with fail
  go_region_law (first
    | (go_simp; go_at_call 16; refine HRG.out.mono ?_; rintro e w2 ⟨rfl, hb2⟩; have d4 : w2.cell? ⟨E, 4, none⟩ = some (.int .i64 (T : Int)) := (hb2.cell hlE1).trans c4; have d0 : w2.cell? ⟨w.heap.size, 0, none⟩ = some (.map (some r)) := (hb2.cell hlw1).trans x0; have HB2 := Lib.hid hb2; clear hb2))
  all_goals
   have hl2 := HB2.out.size
   clear HRG
   go_wp2_with (at_make; refine wpList_make_full _ rfl _ _ 22 rfl w2.heap.size 5 i0 (.int .u8 0) 1 Tryz.underlying22 hi hz0 hz1 .i64 .i64 _ _ (T * 64) rfl rfl (by omega) (by omega) ?c1 ?c2 ?c3 ?_)
   case c1 => rw [hz2]; omega
   case c2 => unfold maxLen; omega
   case c3 => simp
   intro w3 hown hgrow
   have hblk := made_block hown
   have hb3 : Below w2.heap.size w2 w3 := Below.of_grown hgrow
   have HB3 : Hid (Below W1.heap.size W1 w3 ∧ w3.heap[w2.heap.size]? = some (.cells (u8s (List.replicate (T * 64) 0)).toArray 5 (0, 0))) := ⟨HB2.out.trans (hb3.mono hl2), hblk⟩
   have d03 : w3.cell? ⟨w.heap.size, 0, none⟩ = some (.map (some r)) := (hb3.cell (show w.heap.size < w2.heap.size by omega)).trans d0
   have hl3 : w2.heap.size < w3.heap.size := made_size hown
   have HTO : Hid (Calls Tryz.prog 54 #[.pointer (some ⟨E, 0, none⟩), .agg #[.map (some r)]] w3 fun e w' => ∃ gn es', e = .returned (.slice (some ⟨gn, 0, none⟩) n n) ∧ ERead w' (some ⟨gn, 0, none⟩) n es' ∧ es'.length = n ∧ Below w3.heap.size w3 w') := by
     obtain ⟨hE1, hD1, hTT1, hM1, hok1⟩ := HST.out
     have hbb := HB3.out.1
     exact (tableOf_any B E C S b W Dm gt tc n es (q + 1) a u o hs r ps w3 ((hbb.block E hE1.lt).trans hE1) (hTT1.kd (S := fun _ => False) (Kd.of_below hbb) id) (by omega) (by omega) (hM1.kd (S := fun _ => False) (Kd.of_below hbb) id) (fun p hp => (hok1 p hp).below hbb)).mono fun e w' ⟨gn, es', h1, h2, h3, h4⟩ => ⟨gn, es', h1, h2.read, h2.len, h4⟩
   clear hown hgrow hblk hb3 d0
   go_wp2_with fail
   refine HTO.out.mono ?_
   rintro e w4 ⟨gn, es', rfl, hr4, hlen4, hb4⟩
   have HET : Hid (Calls Tryz.prog 91 #[.slice (some ⟨gn, 0, none⟩) n n] w4 fun e w' => ∃ sa sc, e = .returned (.slice sa (encT es').length sc) ∧ w'.ownsRow w4.heap.size 5 1 (.slice sa (encT es').length sc) (encT es').length (u8s (encT es')) ∧ Below w4.heap.size w4 w') := (encodeTable_impl (some ⟨gn, 0, none⟩) n n es' w4 hr4 (by omega)).mono fun e w' ⟨s, h1, h2, h3⟩ => by
     obtain ⟨sa, sc, rfl⟩ := owns_shape h2
     exact ⟨sa, sc, h1, h2, h3⟩
   have HLE : Hid ((encT es').length ≤ T * 64) := by have := encT_fit es' n hlen4; show _ ≤ _; omega
   have HB4 : Hid (Below W1.heap.size W1 w4 ∧ w4.heap[w2.heap.size]? = some (.cells (u8s (List.replicate (T * 64) 0)).toArray 5 (0, 0))) := ⟨HB3.out.1.trans (hb4.mono HB3.out.1.size), (hb4.block _ hl3).trans HB3.out.2⟩
   have hl4 : w2.heap.size < w4.heap.size := by have := hb4.size; omega
   clear hr4 hlen4 hb4 HTO HB3
   generalize encT es' = en at *
   go_wp2_with fail
   refine HET.out.mono ?_
   rintro e w5 ⟨sa, sc, rfl, hs5, hb5⟩
   obtain ⟨w6, hcp, ⟨Y, hY, h6⟩, hk6⟩ := copy_any8 w5 w2.heap.size (T * 64) (T * 64) (List.replicate (T * 64) 0) 5 sa sc w4.heap.size en ((hb5.block _ hl4).trans HB4.out.2) (by simp) hs5 HLE.out
   have HB6 : Hid (Below W1.heap.size W1 w6) := (HB4.out.1.trans (hb5.mono HB4.out.1.size)).trans (hk6.below (by have := hb5.size; omega) (fun g hg => by rw [hg]; exact hl2))
   have HY := Lib.hid hY
   have HG6 := Lib.hid h6
   have d46 : w6.cell? ⟨E, 4, none⟩ = some (.int .i64 (T : Int)) := (HB6.out.cell hlE1).trans c4
   have HCK : Hid (CK B w6 w6 E C nb M S b W Dm (.slice (some ⟨gt, 0, none⟩) n tc) (q + 1) a u o hs rd (logN S b) 0) := by
     obtain ⟨hE1, hD1, _⟩ := HST.out
     exact ⟨⟨o, rd, (HB6.out.block E hE1.lt).trans hE1, hD1.kd (S := fun _ => False) HB6.out, Int.le_refl _, by omega, fun _ _ => rfl⟩, Below.refl _ _, Kd.refl _ _⟩
   have HNE : Hid (w2.heap.size ≠ C ∧ w2.heap.size ≠ M ∧ w2.heap.size ≠ E) := by
     obtain ⟨hE1, hD1, _⟩ := HST.out
     have := hD1.lts
     exact ⟨by omega, by omega, by omega⟩
   have hnbb : 1 ≤ nb ∧ nb ≤ 4096 := by have := HNB.out; have := HLL.out; have := HNN.out; omega
   have hnbT : 2 * (1 + (T : Int)) ≤ (nb : Int) := by have := HNB.out; have := HLL.out; have := HNN.out; omega
   clear HET hs5 hb5 hY h6 hk6 HB4 d03 d4 x0 c4 c5 c6 c7 c3
   go_wp2
   go_loopw [41] (fun i wr => ∃ k : Nat, k ≤ T ∧ i = .int .i64 k ∧ Hid (CK B w6 wr E C nb M S b W Dm (.slice (some ⟨gt, 0, none⟩) n tc) (q + 1) a u o hs rd (logN S b) k)) (fun i _ => T - (intOf i).toNat)
   case atStart => exact ⟨0, Nat.zero_le _, rfl, HCK⟩
   case round =>
     obtain ⟨k, hk, rfl, HS⟩ := hrel
     clear HCK hcp
     have hgr : wr.heap[w2.heap.size]? = some (.cells (u8s Y).toArray 5 (0, 0)) := HS.out.kd.obj _ _ HG6.out (by have := HNE.out; omega) (fun k => by
       rcases k with ⟨c, f, k⟩ | ⟨c, f, k⟩
       · injection k with _ k; exact absurd k (by decide)
       · injection k with _ k; exact absurd k (by decide))
     obtain ⟨⟨o1, rd1, hE1, hD1, ho1, ho2, hrd1⟩, hbw, hkw⟩ := HS.out
     by_cases hlt : k < T
     · have hlt' : (k : Int) < (T : Int) := by omega
       have h0' : (0 : Int) ≤ (k : Int) := by omega
       obtain ⟨X, hX⟩ : ∃ X, (Y.drop (k * 64)).take 64 = X := ⟨_, rfl⟩
       have rng := range_mid hgr (k * 64)
       have hXL : X.length = 64 := by have := HY.out; rw [← hX, List.length_take, List.length_drop]; omega
       rw [hX] at rng
       have hXl : (u8s X).length = 64 := by rw [u8s_len, hXL]
       have harr : (Instr.arrayAt 74 (.slice (some ⟨w2.heap.size, k * 64, none⟩) ((k + 1) * 64 - k * 64) (T * 64 - k * 64))).run Tryz.prog wr = .ok (.pointer (some ⟨w2.heap.size, k * 64, none⟩)) wr := by
         rw [show (k + 1) * 64 - k * 64 = 64 by omega]
         exact arr_at wr _ _ _
       have HWR := Lib.hid (ewrite_any B E C nb M S b W Dm _ (q + 1) a u o1 hs rd1 (rs + 1 + k) X wr hE1 hD1 hB (by omega) (by omega) hXL (by omega) (by omega) hnbb)
       have HKP := Lib.hid (And.intro hbw (And.intro hkw (And.intro ho1 (And.intro ho2 hrd1))))
       clear hE1 hD1 ho1 ho2 hrd1 hbw hkw HS hgr hX hXL
       go_wp2_with (first
         | (refine wpList_load_mid rfl 74 _ rfl w2.heap.size (k * 64) rfl (u8s X) _ rng Tryz.underlying74 rfl (by rw [hXl]; exact infoBB) ?_)
         | fail)
       refine HWR.out.mono ?_
       rintro e w7 ⟨⟨v7, rfl⟩, o7, hq1, hq2, hE7, hD7, hb7, hk7⟩
       have HS7 : Hid (CK B w6 w7 E C nb M S b W Dm (.slice (some ⟨gt, 0, none⟩) n tc) (q + 1) a u o hs rd (logN S b) (k + 1)) := by
         obtain ⟨hbw, hkw, ho1, ho2, hrd1⟩ := HKP.out
         have hL := HLL.out
         exact ⟨⟨o7, _, hE7, hD7, by omega, by omega, fun x hx => by rw [updR, if_neg (by omega)]; exact hrd1 x hx⟩, hbw.trans hb7, hkw.trans hk7⟩
       clear hE7 hD7 hb7 hk7 HKP HWR rng
       go_wp2
       go_roundw
       case rel => exact ⟨k + 1, by omega, by go_num, HS7⟩
       case measure => simp [intOf]; omega
     · obtain rfl : k = T := by omega
       have HBA := Lib.hid (ebarrier_any B E C nb M S b W Dm _ (q + 1) a u o1 hs rd1 wr hE1 (hD1.more (by omega)) hB hnbb (by omega) (by omega))
       have HKP := Lib.hid (And.intro hbw (And.intro hkw (And.intro ho1 (And.intro ho2 hrd1))))
       clear hE1 hD1 ho1 ho2 hrd1 hbw hkw HS hgr
       go_wp2_with fail
       refine HBA.out.mono ?_
       rintro e w7 ⟨⟨v7, rfl⟩, hE7, hD7, hb7, hk7⟩
       have e11 := hE7.c11
       have g1 := hE7.c1
       have g2 := hE7.c2
       have hlE7 := hE7.lt
       obtain ⟨H, hH⟩ : ∃ H, hdrL (q + 1) S b = H := ⟨_, rfl⟩
       have hHL : H.length = 64 := by rw [← hH]; exact hdrL_len _ _ _
       have HHD : Hid (Calls Tryz.prog 15 #[.agg #[.int .i64 (q + 1), .int .i64 S, .int .i64 b]] w7.drew fun e w' => e = .returned (.agg (u8s H).toArray) ∧ Below w7.heap.size w7 w') := (HHB.out w7.drew).mono fun e w' ⟨h1, h2⟩ => ⟨by rw [h1, hH], (Below.refl _ _).drew.trans h2⟩
       have HWR : Hid (∀ V, Below w7.heap.size w7 V → Calls Tryz.prog 92 #[.pointer (some ⟨E, 0, none⟩), .int .i64 rs, .agg (u8s H).toArray] V fun e w' => (∃ v, e = .returned v) ∧ ∃ o8, o ≤ o8 ∧ o8 ≤ o + 2 * k + 3 ∧ ∃ rd8, EngAt w' E C S b W Dm (.slice (some ⟨gt, 0, none⟩) n tc) (q + 1) a u o8 hs ∧ DS B w' C nb M 256 rd8 ∧ Below B w6 w' ∧ Kd (fun g => g = C ∨ g = M ∨ g = E) w6 w' ∧ ∀ x, logN S b ≤ x → rd8 x = rd x) := fun V hV => by
         obtain ⟨hbw, hkw, ho1, ho2, hrd1⟩ := HKP.out
         have hL := HLL.out
         refine (ewrite_any B E C nb M S b W Dm _ (q + 1) a u (o1 + 1) hs rd1 rs H V ((hV.block E hE7.lt).trans hE7) ((hD7.kd (S := fun _ => False) hV).more (by omega)) hB (by omega) (by omega) hHL (by omega) (by omega) hnbb).mono ?_
         rintro e w' ⟨h1, o8, h2, h3, h4, h5, h6, h7⟩
         exact ⟨h1, o8, by omega, by omega, _, h4, h5, ((hbw.trans hb7).trans (hV.mono (by omega))).trans h6, ((hkw.trans hk7).trans (Kd.of_below hV)).trans h7, fun x hx => by rw [updR, if_neg (by omega)]; exact hrd1 x hx⟩
       clear hE7 hD7 hb7 hk7 hH HBA
       go_wp2_with fail
       go_region_law (first
         | (go_simp; go_at_call 15; refine HHD.out.mono ?_; rintro e w8 ⟨rfl, hb8⟩; have HW8 := Lib.hid (HWR.out w8 hb8); clear hb8)
         | (go_simp; go_at_call 92; refine HW8.out.mono ?_; rintro e w9 ⟨⟨v9, rfl⟩, o8, hp1, hp2, rd8, hE9, hD9, hb9, hk9, hrd9⟩; have HP9 := Lib.hid (And.intro hE9 (And.intro hD9 (And.intro hb9 (And.intro hk9 hrd9)))); clear hE9 hD9 hb9 hk9 hrd9))
       all_goals
         have HB9 := Lib.hid (ebarrier_any B E C nb M S b W Dm _ (q + 1) a u o8 hs rd8 w9 HP9.out.1 (HP9.out.2.1.more (by omega)) hB hnbb (by omega) (by omega))
         clear HHD HWR HW8
         go_wp2_with fail
         refine HB9.out.mono ?_
         rintro e wz ⟨⟨vz, rfl⟩, hEz, hDz, hbz, hkz⟩
         have HEND : Hid (CPost B w wz E C nb M S b W Dm gt tc n q a u o hs rd) := by
           obtain ⟨_, _, h3, h4, h5⟩ := HP9.out
           have hBW : B ≤ W1.heap.size := by omega
           exact ⟨o8 + 1, rd8, hEz, hDz.more (by omega), by omega, by omega, h5, ((HB1.out.1.trans (HB6.out.mono hBW)).trans h3).trans hbz, ((HB1.out.2.trans (Kd.of_below HB6.out)).trans h4).trans hkz⟩
         clear hEz hDz hbz hkz HB9 HP9
         go_wp2
         go_end0
         exact ⟨⟨_, rfl⟩, HEND.out⟩
end Go.Proofs.YtonpdbajoidigaaGreatDoor
