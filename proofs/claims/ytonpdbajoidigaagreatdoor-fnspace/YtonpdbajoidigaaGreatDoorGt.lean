/-
  Sps, Spt, Spu, Spv.
-/
import Derived.Test.YtonpdbajoidigaaGreatDoorGs
import Derived.Lib.IndexBytes
import Derived.Maps.RangeRun
/-
  FnSpace: a file stored.
-/
namespace Go.Proofs.YtonpdbajoidigaaGreatDoor
open Go.RowKit
set_option linter.unusedSimpArgs false
set_option linter.unusedVariables false

theorem inoL_len {nm : ByteArray} {z : Int} {xs : List Int} (h : nm.size ≤ 16) (hx : xs.length ≤ 22) : (inoL nm z xs).length = 64 := by
  unfold inoL
  apply padL_len
  rw [List.length_append, List.length_append, padL_len _ _ (by rw [nmL_len]; exact h), beB_len, lidL_len]
  omega
/-- What is kept of the engine through a file's blocks. -/
structure SFW (B : Nat) (w0 w : World) (E C nb M : Nat) (S : Nat) (b : Int) (W Dm gt tc n : Nat) (es0 : List (Int × Bool)) (q o0 : Int) (hs : List Value) (rd0 : Int → List Int) (F0 : Int) (ls : List Int) (X : Nat → List Int) (k : Nat) : Prop where
  st : ∃ es a u o rd, EngAt w E C S b W Dm (.slice (some ⟨gt, 0, none⟩) n tc) q a u o hs ∧ DS B w C nb M 256 rd ∧ TAt B w gt tc n es ∧ SFI (logN S b) b S n k ls X es0 es rd0 rd F0 a u ∧ o0 ≤ o ∧ o ≤ o0 + 2 * k
  bel : Below B w0 w
  kd : Kd (fun g => g = C ∨ g = M ∨ g = E ∨ g = gt) w0 w
theorem three_ofI {W : World} {r : Nat} {u v x : Value} {t : TypeId} (h : W.heap[r]? = some (.cells #[u, v, x] t (0, 0))) : W.cell? ⟨r, 0, none⟩ = some u ∧ W.cell? ⟨r, 1, none⟩ = some v ∧ W.cell? ⟨r, 2, none⟩ = some x := by
  refine ⟨?_, ?_, ?_⟩ <;> simp [World.cell?, h]
theorem CD.neMap {B : Nat} {w : World} {C nb : Nat} {xs : List Int} {ws : List (Int × List Int)} {dv wv : Value} {M : Nat} {D : DataW Unit} (h : CD B w C nb xs ws dv wv M D) {W : Nat} {arr : Array MapEntry} {ck : Nat} (hW : w.heap[W]? = some (.map arr ck)) (hM : W ≠ M) : ∀ g, (g = C ∨ g = M ∨ dv.ownBlock = some g ∨ wv.ownBlock = some g) → ¬ g = W := fun g hg e => by
  subst e
  rcases hg with e | e | e | e
  · rw [e, h.cell] at hW; cases hW
  · exact hM e
  · obtain ⟨cur, hc⟩ := owns_tag h.dur e; rw [hc] at hW; cases hW
  · obtain ⟨cur, hc⟩ := owns_tag h.wr e; rw [hc] at hW; cases hW
theorem DS.keptW {B : Nat} {w w' : World} {C nb M m : Nat} {rd : Int → List Int} (h : DS B w C nb M m rd) {W : Nat} {fs : List FR} (hW : MF w W fs) (hM : W ≠ M) (hk : Kept (fun g => g = W) w w') : DS B w' C nb M m rd := by
  obtain ⟨xs, ws, da, dc, wa, wc, D, hc, h1, h2, h3⟩ := h
  obtain ⟨arr, ck, hw, _⟩ := hW
  exact ⟨xs, ws, da, dc, wa, wc, D, hc.kept hk (hc.neMap hw hM), h1, h2, h3⟩
theorem MF.neE {w : World} {W : Nat} {fs : List FR} (h : MF w W fs) {p : Nat} {c : Array Value} {t : TypeId} {f : Nat × Nat} (hp : w.heap[p]? = some (.cells c t f)) : p ≠ W := fun e => by
  obtain ⟨arr, ck, hw, _⟩ := h
  rw [e, hw] at hp
  cases hp
/-- The engine behind a file stored. -/
structure SPost (B : Nat) (w w' : World) (E C nb M : Nat) (S : Nat) (b : Int) (W Dm gt tc n : Nat) (es : List (Int × Bool)) (q o : Int) (hs : List Value) (rd : Int → List Int) (F0 : Int) (ls : List Int) (nm dt : ByteArray) (fs : List FR) (m : Nat) : Prop where
  st : ∃ es' a' u' o' rd' X, EngAt w' E C S b W Dm (.slice (some ⟨gt, 0, none⟩) n tc) q a' u' o' hs ∧ DS B w' C nb M 256 rd' ∧ TAt B w' gt tc n es' ∧ SFI (logN S b) b S n (m + 1) ls X es es' rd rd' F0 a' u' ∧ (∀ j, j < m → X j = chB dt j) ∧ o ≤ o' ∧ o' ≤ o + 2 * (m + 1)
  file : ∃ gl cl, MF w' W (fs ++ [⟨nm, ls[m]?.getD 0, (dt.size : Int), some ⟨gl, 0, none⟩, m, cl⟩]) ∧ w.heap.size ≤ gl ∧ m ≤ cl ∧ cl ≤ 9223372036854775807 ∧ (∀ j, j < m → w'.cell? ⟨gl, j, none⟩ = some (.int .i64 (ls[j]?.getD 0))) ∧ ∃ cur, w'.heap[gl]? = some (.cells cur 2 (0, 0))
  bel : Below B w w'
  kd : Kd (fun g => g = C ∨ g = M ∨ g = E ∨ g = gt ∨ g = W) w w'
set_option maxHeartbeats 4000000 in
set_option maxRecDepth 100000 in
theorem store_any (B E C nb M : Nat) (S : Nat) (b : Int) (W Dm gt tc n : Nat) (es : List (Int × Bool)) (q a u o : Int) (hs : List Value) (rd : Int → List Int) (nm dt : ByteArray) (fs : List FR) (m : Nat) (ls : List Int) (w : World)
    (hE : EngAt w E C S b W Dm (.slice (some ⟨gt, 0, none⟩) n tc) q a u o hs) (hD : DS B w C nb M 256 rd) (hT : TAt B w gt tc n es) (hB : B ≤ E) (hv : vG (S : Int) b = true) (hnb : (nb : Int) = logN S b + S * b) (hn : n ≤ 1024) (ho : 0 ≤ o) (ho' : o ≤ 1000000000)
    (hdt : dt.size = 64 * m) (hm : m ≤ 22) (hnm : nameB nm = true) (hI : TInv (logN S b) b S n es a u) (hls : freeR es n ((m : Int) + 1) = ls) (hll : ls.length = m + 1) (hL : Lids n es ls) (hroom : (m : Int) + 1 + b ≤ frS (segL (logN S b) b es S n) a u b S) (hu : 0 ≤ u ∧ u ≤ b)
    (hF : MF w W fs) (hfn : lookF nm fs = .none) (hWM : W ≠ M) (hWB : B ≤ W) :
    Calls Tryz.prog 47 #[.pointer (some ⟨E, 0, none⟩), .string nm, .string dt] w fun e w' => (∃ v, e = .returned v) ∧ SPost B w w' E C nb M S b W Dm gt tc n es q o hs rd (frS (segL (logN S b) b es S n) a u b S) ls nm dt fs m := by
  have c10 := hE.c10
  have hlE := hE.lt
  have hg := vG_bounds hv
  have HFB : Hid (Calls Tryz.prog 78 #[.int .i64 (dt.size : Int)] w fun e w' => e = .returned (.int .i64 ((m : Int) + 1)) ∧ w' = w) := (fileBlocks_impl (dt.size : Int) w).mono fun e w' ⟨h1, h2⟩ => ⟨by rw [h1, if_pos (by omega)]; unfold nblk; congr 3; omega, h2⟩
  have HMR := Lib.hid (makeRoom_any E C S b W Dm _ n tc es q a u o hs ((m : Int) + 1) w hE hT.read (by omega) hv hu.1 hu.2 (by omega) (by omega) hroom)
  have HFL : Hid (∀ V, Below w.heap.size w V → Calls Tryz.prog 80 #[.slice (some ⟨gt, 0, none⟩) n tc, .int .i64 ((m : Int) + 1)] V fun e W' => ∃ gl cl, e = .returned (.slice (some ⟨gl, 0, none⟩) (m + 1) cl) ∧ m + 1 ≤ cl ∧ cl ≤ 9223372036854775807 ∧ V.heap.size ≤ gl ∧ (∀ j, j < m + 1 → W'.cell? ⟨gl, j, none⟩ = some (.int .i64 (ls[j]?.getD 0))) ∧ (∃ cur, W'.heap[gl]? = some (.cells cur 2 (0, 0))) ∧ Below V.heap.size V W') := fun V hV => by
    refine (freeLids_impl (some ⟨gt, 0, none⟩) n tc es ((m : Int) + 1) V (hT.read.below hV) (by omega)).mono ?_
    rintro e W' ⟨v, rfl, own, hb⟩
    rw [hls, hll] at own
    have hc := own
    rcases own.2 with ⟨_, h0⟩ | ⟨gl, cl, cur, rfl, hBg, hh, hcap, hmx, _⟩
    · omega
    refine ⟨gl, cl, rfl, hcap, by unfold maxLen at hmx; omega, hBg, fun j hj => ?_, ⟨cur, hh⟩, hb⟩
    rw [hc.cellAt j (by omega), List.getElem?_map, List.getElem?_eq_getElem (by omega)]
    rfl
  have HDT := Lib.hid hdt
  have HLL := Lib.hid hll
  have HNB := Lib.hid hnb
  have HST : Hid (EngAt w E C S b W Dm (.slice (some ⟨gt, 0, none⟩) n tc) q a u o hs ∧ DS B w C nb M 256 rd ∧ TAt B w gt tc n es ∧ TInv (logN S b) b S n es a u ∧ (m : Int) + 1 + b ≤ frS (segL (logN S b) b es S n) a u b S) := ⟨hE, hD, hT, hI, hroom⟩
  have HLI := Lib.hid hL
  have HMF := Lib.hid (And.intro hF hfn)
  have HV := Lib.hid hv
  have hdm : dt.size ≤ 1408 := by omega
  clear hE hD hT hI hroom hls hdt hll hnb hL hF hfn hv
  go_enter Tryz.func47, Tryz.ntmps47
  go_wp2_with fail
  refine HFB.out.mono ?_
  rintro e w0 ⟨rfl, hw0⟩
  have hw0 := hw0.symm
  subst hw0
  go_wp2_with fail
  refine HMR.out.mono ?_
  rintro e w1 ⟨⟨v1, rfl⟩, hb1⟩
  have HB1 := Lib.hid hb1
  have c10b : w1.cell? ⟨E, 10, none⟩ = some (.slice (some ⟨gt, 0, none⟩) n tc) := (hb1.cell hlE).trans c10
  clear hb1 HFB HMR
  go_wp2_with fail
  refine (HFL.out w1 HB1.out).mono ?_
  rintro e w2 ⟨gl, cl, rfl, hcl, hclm, hgl, hcell, hcur, hb2⟩
  have HB2 : Hid (Below w.heap.size w w2) := HB1.out.trans (hb2.mono HB1.out.size)
  have cm := hcell m (by omega)
  have HCL := Lib.hid hcell
  have HCU := Lib.hid hcur
  clear hb2 hcell hcur HFL
  have hm1 : (0 : Int) ≤ (m : Int) := by omega
  have hm2 : (m : Int) < (m : Int) + 1 := by omega
  go_wp2
  obtain ⟨X, hXd⟩ : ∃ X : Nat → List Int, X = fun j => if j < m then chB dt j else inoL nm dt.size (ls.take m) := ⟨_, rfl⟩
  have HX : Hid (∀ j, j < m → X j = chB dt j) := fun j hj => by rw [hXd]; exact if_pos hj
  have HXm : Hid (X m = inoL nm dt.size (ls.take m)) := by show _ = _; rw [hXd]; exact if_neg (Nat.lt_irrefl _)
  clear hXd
  obtain ⟨W3, hW3⟩ : ∃ W3, w2.alloc (.cells #[.string nm, .int .i64 (dt.size : Int), .slice (some ⟨gl, 0, none⟩) m cl] 117) = W3 := ⟨_, rfl⟩
  have hb3 : Below w2.heap.size w2 W3 := by rw [← hW3]; exact (Below.refl _ _).alloc (Nat.le_refl _) _
  have HB3 : Hid (Below w.heap.size w W3) := HB2.out.trans (hb3.mono HB2.out.size)
  have HIN : Hid (W3.heap[w2.heap.size]? = some (.cells #[.string nm, .int .i64 (dt.size : Int), .slice (some ⟨gl, 0, none⟩) m cl] 117 (0, 0))) := by show _ = _; rw [← hW3]; exact heap_alloc_new w2 _
  have HGL : Hid (∀ V, Kd (fun g => g = C ∨ g = M ∨ g = E ∨ g = gt) W3 V → (∀ j, j < m + 1 → V.cell? ⟨gl, j, none⟩ = some (.int .i64 (ls[j]?.getD 0))) ∧ V.heap[w2.heap.size]? = some (.cells #[.string nm, .int .i64 (dt.size : Int), .slice (some ⟨gl, 0, none⟩) m cl] 117 (0, 0)) ∧ ∃ cur, V.heap[gl]? = some (.cells cur 2 (0, 0))) := fun V hV => by
    obtain ⟨hE, hD, hT, _⟩ := HST.out
    obtain ⟨xs, ws, da, dc, wa, wc, D, hcd, _⟩ := hD
    obtain ⟨cur, hcu⟩ := HCU.out
    have hsz := HB1.out.size
    have hCl := hcd.ltC
    have hMl := hcd.ltM
    have hTl : gt < w.heap.size := (hT.lt gt rfl).2
    have h3 : W3.heap[gl]? = some (.cells cur 2 (0, 0)) := (hb3.block gl (Array.getElem?_eq_some_iff.1 hcu).1).trans hcu
    have hz2 := HB2.out.size
    have hV1 := hV.obj gl _ h3 (by omega) (fun k => by
      rcases k with ⟨c, f, k⟩ | ⟨c, f, k⟩
      · injection k with _ k; exact absurd k (by decide)
      · injection k with _ k; exact absurd k (by decide))
    refine ⟨fun j hj => ?_, hV.obj _ _ HIN.out (by omega) (fun k => by
      rcases k with ⟨c, f, k⟩ | ⟨c, f, k⟩
      · injection k with _ k; exact absurd k (by decide)
      · injection k with _ k; exact absurd k (by decide)), ⟨cur, hV1⟩⟩
    rw [← HCL.out j hj]
    exact World.cell?_of_block (a := ⟨gl, j, none⟩) (hV1.trans hcu.symm)
  obtain ⟨F0, hF0⟩ : ∃ F0, frS (segL (logN S b) b es S n) a u b S = F0 := ⟨_, rfl⟩
  have H0 : Hid (SFW B W3 W3 E C nb M S b W Dm gt tc n es q o hs rd F0 ls X 0) := by
    obtain ⟨hE, hD, hT, hI, _⟩ := HST.out
    exact ⟨⟨es, a, u, o, rd, (HB3.out.block E hE.lt).trans hE, hD.kd (S := fun _ => False) HB3.out, hT.kd (S := fun _ => False) (Kd.of_below HB3.out) id, SFI.start hI (by rw [hF0]; exact Int.le_refl _), Int.le_refl _, by omega⟩, Below.refl _ _, Kd.refl _ _⟩
  have HF0 := Lib.hid hF0
  have HRM : Hid ((m : Int) + 1 + b ≤ F0) := by show _ ≤ _; rw [← hF0]; exact HST.out.2.2.2.2
  clear hF0 hb3 cm c10 c10b
  obtain ⟨ib, hib, hzb, _, _⟩ := info_parts info74z
  have hzv : ∀ V, (zeroValue 74).run Tryz.prog V = .ok (.agg z64.toArray) V := fun V => by simp [zeroValue, typeInfo, hib, hzb]
  have hs3 : w2.heap.size < W3.heap.size := (Array.getElem?_eq_some_iff.1 HIN.out).1
  go_loopw [42] (fun i wr => ∃ k : Nat, k ≤ m ∧ i = .int .i64 k ∧ Hid (SFW B W3 wr E C nb M S b W Dm gt tc n es q o hs rd F0 ls X k)) (fun i _ => m - (intOf i).toNat)
  case atStart => exact ⟨0, Nat.zero_le _, rfl, by rw [hW3]; exact H0⟩
  case round =>
    obtain ⟨k, hk, rfl, HS⟩ := hrel
    clear H0
    by_cases hlt : k < m
    · have hlt' : (k : Int) < (m : Int) := by omega
      have h0' : (0 : Int) ≤ (k : Int) := by omega
      have ck := (HGL.out wr HS.out.kd).1 k (by omega)
      obtain ⟨ld, hld, hl1, hl2, hlk⟩ : ∃ ld : Nat, ls[k]?.getD 0 = (ld : Int) ∧ 1 ≤ ld ∧ ld ≤ n ∧ lidK ls k = ld - 1 := by
        have h1 := HLI.out.low k (by rw [HLL.out]; omega)
        exact ⟨(ls[k]?.getD 0).toNat, by omega, by omega, by omega, by unfold lidK; omega⟩
      obtain ⟨W4, hW4⟩ : ∃ W4, wr.alloc (.cells z64.toArray 74) = W4 := ⟨_, rfl⟩
      have hb4 : Below wr.heap.size wr W4 := by rw [← hW4]; exact (Below.refl _ _).alloc (Nat.le_refl _) _
      have k4 : W4.heap[wr.heap.size]? = some (.cells z64.toArray 74 (0, 0)) := by rw [← hW4]; exact heap_alloc_new wr _
      obtain ⟨W5, hW5⟩ : ∃ W5, W4.drew.setRow wr.heap.size (u8s (chB dt k)).toArray = W5 := ⟨_, rfl⟩
      have hex : ((dt.extract (k * 64) dt.size).data.toList.take 64) = (dt.data.toList.drop (64 * k)).take 64 := by
        rw [_root_.Go.Lib.extract_to_end, Nat.mul_comm k 64]
      have hxs : 64 ≤ (dt.extract (k * 64) dt.size).size := by
        have := HDT.out
        rw [ByteArray.size_extract]
        omega
      have hcp : ∀ ty, (Builtin.copy_ #[22, 9] ty #[.slice (some ⟨wr.heap.size, 0, none⟩) 64 64, .string (dt.extract (k * 64) dt.size)]).run Tryz.prog W4.drew = .ok (goInt 64) W5 := fun ty => by
        have := run_copy_64 (P := Tryz.prog) W4.drew 22 9 ty 5 wr.heap.size 64 (dt.extract (k * 64) dt.size) z64.toArray 74 Tryz.underlying22 info5s k4 hxs (by rw [List.size_toArray]; exact z64_len)
        rw [hex, chB_cells, hW5] at this
        exact this
      have k5 : W5.heap[wr.heap.size]? = some (.cells (u8s (chB dt k)).toArray 74 (0, 0)) := by rw [← hW5]; exact setRow_heap W4.drew wr.heap.size _ _ 74 _ k4
      have hb5 : Below wr.heap.size wr W5 := by rw [← hW5]; exact below_setRow hb4.drew (Nat.le_refl _) _
      have hle5 : (k : Int) * 64 ≤ (dt.size : Int) := by have := HDT.out; omega
      have hch : (chB dt k).length = 64 := chB_len (by have := HDT.out; omega)
      obtain ⟨⟨es', a', u', o', rd', hE', hD', hT', hSF, ho1, ho2⟩, hbw, hkw⟩ := HS.out
      have HAP := Lib.hid (append_one B E C nb M S b W Dm gt tc n es' q a' u' o' hs rd' ld (chB dt k) false W5 ((hb5.block E hE'.lt).trans hE') (hD'.kd (S := fun _ => False) hb5) (hT'.kd (S := fun _ => False) (Kd.of_below hb5) id) hB HV.out HNB.out (by omega) hch hl1 hl2 (by omega) (by omega) hSF.inv (by rw [← hlk]; exact hSF.free HLI.out (by rw [HLL.out]; omega)) (by have := hSF.room; have := HRM.out; omega))
      have rng := range_of_heap k5
      have hXl : (u8s (chB dt k)).length = 64 := by rw [u8s_len, hch]
      rw [hld] at ck
      have HB5 : Hid (Below B W3 W5 ∧ Kd (fun g => g = C ∨ g = M ∨ g = E ∨ g = gt) W3 W5) := ⟨hbw.trans (hb5.mono (by have := hE'.lt; omega)), hkw.trans (Kd.of_below hb5)⟩
      have HSF := Lib.hid (And.intro hSF (And.intro ho1 ho2))
      have HLD := Lib.hid (And.intro hld hlk)
      clear hE' hD' hT' hSF ho1 ho2 hbw hkw HS hb4 hb5 k4 k5 hex hxs hW5 hld hlk hch hib hzb
      go_wp2
      go_region
      all_goals
        clear hcp
        go_wp2_with (first
          | (refine wpList_load_mid rfl 74 _ rfl wr.heap.size 0 rfl (u8s (chB dt k)) _ rng Tryz.underlying74 rfl (by rw [hXl]; exact infoBB) ?_)
          | fail)
        refine HAP.out.mono ?_
        rintro e w6 ⟨⟨v6, rfl⟩, o6, vv, jj, hq1, hq2, hjj, hvv0, hvv1, hfr, hInv, hFr, hE6, hD6, hT6, hb6, hk6⟩
        have HS6 : Hid (SFW B W3 w6 E C nb M S b W Dm gt tc n es q o hs rd F0 ls X (k + 1)) := by
          obtain ⟨hSF, ho1, ho2⟩ := HSF.out
          have hL1 := (logN_bounds HV.out).1
          rw [← HLD.out.2] at hInv hFr hT6
          rw [← HX.out k hlt] at hD6
          exact ⟨⟨_, _, _, o6, _, hE6, hD6, hT6, hSF.step HLI.out (by rw [HLL.out]; omega) (by omega) (by omega) hjj hvv0 hvv1 hfr hInv hFr, by omega, by omega⟩, HB5.out.1.trans hb6, HB5.out.2.trans hk6⟩
        clear hfr hInv hFr hE6 hD6 hT6 hb6 hk6 HAP HSF HB5 rng
        go_wp2
        go_roundw
        case rel => exact ⟨k + 1, by omega, by go_num, HS6⟩
        case measure => simp [intOf]; omega
    · obtain rfl : k = m := by omega
      obtain ⟨hcl2, hin, _⟩ := HGL.out wr HS.out.kd
      have ck := hcl2 k (by omega)
      obtain ⟨x0, x1, x2⟩ := three_ofI hin
      have HIR : Hid (IRow .i64 wr (some ⟨gl, 0, none⟩) k (ls.take k)) := ⟨by rw [List.length_take, HLL.out]; omega, .inr ⟨gl, 0, rfl, fun i hi => by
        rw [Nat.zero_add, hcl2 i (by omega), List.getElem?_take, if_pos hi]⟩⟩
      have hnsz : nm.size ≤ 16 := by unfold nameB at hnm; simp only [Bool.and_eq_true, decide_eq_true_iff] at hnm; exact hnm.2.2
      have HIO : Hid (inoB nm (dt.size : Int) (ls.take k) = true) := by
        have hd := HDT.out
        have hlt : (ls.take k).length = k := by rw [List.length_take, HLL.out]; omega
        show _ = _
        unfold inoB
        rw [hnm, decide_eq_true (p := 0 ≤ (dt.size : Int)) (by omega), decide_eq_true (p := (dt.size : Int) ≤ 1408) (by omega), decide_eq_true (p := ((ls.take k).length : Int) = nblkI (dt.size : Int)) (by rw [hlt]; unfold nblkI; omega)]
        simp only [Bool.true_and]
        unfold lidsB
        rw [List.all_eq_true]
        intro x hx
        obtain ⟨i, hi, rfl⟩ := List.getElem_of_mem hx
        have hi2 : i < ls.length := by rw [HLL.out]; omega
        have hlo := HLI.out.low i hi2
        rw [List.getElem?_eq_getElem hi2] at hlo
        rw [List.getElem_take]
        simp only [Option.getD_some] at hlo
        unfold lidB
        simp
        omega
      have HIB : Hid (∀ V, Below wr.heap.size wr V → Calls Tryz.prog 82 #[.agg #[.string nm, .int .i64 (dt.size : Int), .slice (some ⟨gl, 0, none⟩) k cl]] V fun e w' => e = .returned (.agg (u8s (X k)).toArray) ∧ Below wr.heap.size wr w') := fun V hV => (inodeBlock_any nm (dt.size : Int) (some ⟨gl, 0, none⟩) k cl (ls.take k) V (HIR.out.below hV) HIO.out).mono fun e w' ⟨h1, h2⟩ => ⟨by rw [h1, HXm.out], hV.trans (h2.mono hV.size)⟩
      have hXm : (X k).length = 64 := by rw [HXm.out]; exact inoL_len hnsz (by rw [List.length_take]; omega)
      have hlw : w2.heap.size < wr.heap.size := (Array.getElem?_eq_some_iff.1 hin).1
      clear hcl2 hin hib hzb hzv
      obtain ⟨ld, hld, hl1, hl2, hlk⟩ : ∃ ld : Nat, ls[k]?.getD 0 = (ld : Int) ∧ 1 ≤ ld ∧ ld ≤ n ∧ lidK ls k = ld - 1 := by
        have h1 := HLI.out.low k (by rw [HLL.out]; omega)
        exact ⟨(ls[k]?.getD 0).toNat, by omega, by omega, by omega, by unfold lidK; omega⟩
      have HLD := Lib.hid (And.intro hld hlk)
      go_wp2_with fail
      refine (HIB.out wr (Below.refl _ _)).mono ?_
      rintro e w5 ⟨rfl, hb5⟩
      obtain ⟨⟨es', a', u', o', rd', hE', hD', hT', hSF, ho1, ho2⟩, hbw, hkw⟩ := HS.out
      have hE5 := (hb5.block E hE'.lt).trans hE'
      have HAP : Hid (Calls Tryz.prog 81 #[.pointer (some ⟨E, 0, none⟩), .int .i64 (ls[k]?.getD 0), .agg (u8s (X k)).toArray, .bool true] w5 fun e w' => (∃ v, e = .returned v) ∧ EPut B w5 w' E C nb M S b W Dm gt tc n (ld - 1) es' q a' u' o' hs rd' (X k) true) := by
        show Calls _ _ _ _ _
        rw [hld]
        exact append_one B E C nb M S b W Dm gt tc n es' q a' u' o' hs rd' ld (X k) true w5 hE5 (hD'.kd (S := fun _ => False) hb5) (hT'.kd (S := fun _ => False) (Kd.of_below hb5) id) hB HV.out HNB.out (by omega) hXm hl1 hl2 (by omega) (by omega) hSF.inv (by rw [← hlk]; exact hSF.free HLI.out (by rw [HLL.out]; omega)) (by have := hSF.room; have := HRM.out; omega)
      have HB5 : Hid (Below B W3 w5 ∧ Kd (fun g => g = C ∨ g = M ∨ g = E ∨ g = gt) W3 w5) := ⟨hbw.trans (hb5.mono (by have := hE'.lt; omega)), hkw.trans (Kd.of_below hb5)⟩
      have HSF := Lib.hid (And.intro hSF (And.intro ho1 ho2))
      clear hE' hD' hT' hSF ho1 ho2 hbw hkw HS hb5 hE5 hld hlk HIB HIR HIO
      go_wp2_with fail
      refine HAP.out.mono ?_
      rintro e w6 ⟨⟨v6, rfl⟩, o6, vv, jj, hq1, hq2, hjj, hvv0, hvv1, hfr, hInv, hFr, hE6, hD6, hT6, hb6, hk6⟩
      have HB6 : Hid (Below B W3 w6 ∧ Kd (fun g => g = C ∨ g = M ∨ g = E ∨ g = gt) W3 w6) := ⟨HB5.out.1.trans hb6, HB5.out.2.trans hk6⟩
      obtain ⟨hcl6, hin6, _⟩ := HGL.out w6 HB6.out.2
      obtain ⟨x0, x1, x2⟩ := three_ofI hin6
      have hWne : W ≠ C ∧ W ≠ E ∧ W ≠ gt := by
        obtain ⟨hE0, hD0, hT0, _⟩ := HST.out
        obtain ⟨xs, ws, da, dc, wa, wc, D, hcd, _⟩ := hD0
        obtain ⟨cur, htg⟩ := hT0.tag
        exact ⟨(HMF.out.1.neE hcd.cell).symm, (HMF.out.1.neE hE0).symm, (HMF.out.1.neE htg).symm⟩
      have hM6 : MF w6 W fs := (HMF.out.1.kd (S := fun _ => False) (Kd.of_below HB3.out) id).kd HB6.out.2 (fun x => by
        rcases x with x | x | x | x
        · exact hWne.1 x
        · exact hWM x
        · exact hWne.2.1 x
        · exact hWne.2.2 x)
      have hs6 : w2.heap.size < w6.heap.size := (Array.getElem?_eq_some_iff.1 hin6).1
      have HFG := Lib.hid (forget_none E C S b W Dm _ q jj (vv + 1) o6 hs fs nm w6 hE6 hM6 HMF.out.2)
      have HST6 : Hid (∃ es' a' u' o' rd', EngAt w6 E C S b W Dm (.slice (some ⟨gt, 0, none⟩) n tc) q a' u' o' hs ∧ DS B w6 C nb M 256 rd' ∧ TAt B w6 gt tc n es' ∧ SFI (logN S b) b S n (k + 1) ls X es es' rd rd' F0 a' u' ∧ o ≤ o' ∧ o' ≤ o + 2 * (k + 1)) := by
        obtain ⟨hSF, ho1, ho2⟩ := HSF.out
        have hL1 := (logN_bounds HV.out).1
        rw [← HLD.out.2] at hInv hFr hT6
        exact ⟨_, _, _, o6, _, hE6, hD6, hT6, hSF.step HLI.out (by rw [HLL.out]; omega) (by omega) (by omega) hjj hvv0 hvv1 hfr hInv hFr, by omega, by omega⟩
      have HM6 := Lib.hid (And.intro hM6 (And.intro hcl6 hin6))
      have e8 := hE6.c8
      clear hfr hInv hFr hE6 hD6 hT6 hb6 hk6 HAP HSF HB5 hM6 hcl6 hin6
      go_wp2_with fail
      refine HFG.out.mono ?_
      rintro e w7 ⟨⟨v7, rfl⟩, hM7, hk7⟩
      obtain ⟨hM6, hcl6, hin6⟩ := HM6.out
      have hin7 : w7.heap[w2.heap.size]? = some (.cells #[.string nm, .int .i64 (dt.size : Int), .slice (some ⟨gl, 0, none⟩) k cl] 117 (0, 0)) := (hk7.block _ (Array.getElem?_eq_some_iff.1 hin6).1 (hM6.neE hin6)).trans hin6
      have f8 : w7.cell? ⟨E, 8, none⟩ = some (.map (some W)) := by
        have hl : E < w6.heap.size := World.block_lt_of_cell? w6 _ e8
        exact (World.cell?_of_block (a := ⟨E, 8, none⟩) (hk7.block E hl (fun x => hWne.2.1 x.symm))).trans e8
      have hs7 : w2.heap.size < w7.heap.size := (Array.getElem?_eq_some_iff.1 hin7).1
      clear x0 x1 x2
      obtain ⟨x0, x1, x2⟩ := three_ofI hin7
      have HPT : Hid (∀ V, Below w7.heap.size w7 V → Calls Tryz.prog 83 #[.pointer (some ⟨E, 8, none⟩), .agg #[.int .i64 (ls[k]?.getD 0), .string nm, .int .i64 (dt.size : Int), .slice (some ⟨gl, 0, none⟩) k cl]] V fun e w' => (∃ v, e = .returned v) ∧ MF w' W (fs ++ [⟨nm, ls[k]?.getD 0, (dt.size : Int), some ⟨gl, 0, none⟩, k, cl⟩]) ∧ Kept (fun g => g = W) w6 w') := fun V hV => (putF_any E W fs ⟨nm, ls[k]?.getD 0, (dt.size : Int), some ⟨gl, 0, none⟩, k, cl⟩ V ((hV.cell (World.block_lt_of_cell? w7 _ f8)).trans f8) (hM7.kd (S := fun _ => False) (Kd.of_below hV) id) HMF.out.2).mono fun e w' ⟨h1, h2, h3⟩ => ⟨h1, h2, (hk7.trans (Kept.of_below hV _)).trans h3⟩
      clear hM6 hcl6 hin6 hin7 hM7 hk7 HFG
      have HPD := Lib.hid (HPT.out w7.drew (Below.refl _ _).drew)
      go_wp2_with fail
      go_region_law (first
        | (go_simp; go_at_call 83; refine HPD.out.mono ?_; rintro e w8 ⟨⟨v8, rfl⟩, hM8, hk8⟩; have HM8 := Lib.hid (And.intro hM8 hk8); clear hM8 hk8))
      all_goals
       obtain ⟨hM8, hk8⟩ := HM8.out
       have HP : Hid (SPost B w w8 E C nb M S b W Dm gt tc n es q o hs rd F0 ls nm dt fs k) := by
         obtain ⟨es', a', u', o', rd', hE6, hD6, hT6, hSF, ho1, ho2⟩ := HST6.out
         obtain ⟨hM6, hcl6, hin6⟩ := HM6.out
         have kd8 : Kd (fun g => g = W) w6 w8 := Kd.of_kept hk8 fun g hg => .inl hg
         have hlE6 := hE6.lt
         obtain ⟨hg6, _, cur, hc6⟩ := HGL.out w6 HB6.out.2
         have hc8 : w8.heap[gl]? = w6.heap[gl]? := hk8.block gl (Array.getElem?_eq_some_iff.1 hc6).1 (hM6.neE hc6)
         have hBw : B ≤ w.heap.size := by omega
         exact ⟨⟨es', a', u', o', rd', X, kd8.eng hE6 (fun x => hWne.2.1 x.symm), hD6.keptW hM6 hWM hk8, hT6.kd kd8 (fun x => hWne.2.2 x.symm), hSF, HX.out, ho1, by omega⟩, ⟨gl, cl, hM8, by have := HB1.out.size; omega, by omega, hclm, fun j hj => (World.cell?_of_block (a := ⟨gl, j, none⟩) hc8).trans (hg6 j (by omega)), ⟨cur, hc8.trans hc6⟩⟩, ((HB3.out.mono hBw).trans HB6.out.1).trans (hk8.below (by omega) (fun g hg => by rw [hg]; exact hWB)), ((Kd.of_below HB3.out).trans (HB6.out.2.mono fun g hg => by omega)).trans (kd8.mono fun g hg => .inr (.inr (.inr (.inr hg))))⟩
       clear hM8 hk8 HPT HST6 HM6 HM8 HPD
       go_wp2
       go_end0
       rw [HF0.out]
       exact ⟨⟨_, rfl⟩, HP.out⟩
end Go.Proofs.YtonpdbajoidigaaGreatDoor

/-
  FnSpace: all lids of a file.
-/
namespace Go.Proofs.YtonpdbajoidigaaGreatDoor
open Go.RowKit
set_option linter.unusedSimpArgs false
set_option linter.unusedVariables false

def i6s (xs : List Int) : List Value := xs.map (Value.int .i64)
theorem i6s_len (xs : List Int) : (i6s xs).length = xs.length := by simp [i6s]
theorem many_i6 (xs : List Int) : ∀ u ∈ i6s xs, u.oneCell' = true := by intro u hu; simp [i6s] at hu; obtain ⟨a, _, rfl⟩ := hu; rfl
theorem empty_i6 (w : World) : (w.alloc (.cells #[] 2)).ownsRow w.heap.size 2 1 (.slice (some ⟨w.heap.size, 0, none⟩) 0 0) 0 [] :=
  ⟨rfl, .inr ⟨w.heap.size, 0, #[], rfl, Nat.le_refl _, heap_alloc_new w _, by simp, by simp [maxLen], by simp, by simp⟩⟩
theorem i6_info : (Tryz.prog.info? 2).map (fun i => (i.zero, i.size, i.bytes)) = some (some (.int .i64 0), 1, 8) := by kernel_rfl
theorem nil_eq6 (g off n c : Nat) (W : World) : (binOp .eql 46 (.slice (some ⟨g, off, none⟩) n c) (.slice none 0 0)).run Tryz.prog W = .ok (.bool false) W := by
  kernel_rfl
/-- A file's lids in the heap. -/
def LRow (w : World) (g n : Nat) (ls : List Int) : Prop := ls.length = n ∧ (∀ j, j < n → w.cell? ⟨g, j, none⟩ = some (.int .i64 (ls[j]?.getD 0))) ∧ ∃ cur, w.heap[g]? = some (.cells cur 2 (0, 0))
theorem LRow.lt {w : World} {g n : Nat} {ls : List Int} (h : LRow w g n ls) : g < w.heap.size := by
  obtain ⟨_, _, cur, hc⟩ := h
  exact (Array.getElem?_eq_some_iff.1 hc).1
theorem LRow.of_block {w w' : World} {g n : Nat} {ls : List Int} (h : LRow w g n ls) (hb : w'.heap[g]? = w.heap[g]?) : LRow w' g n ls := by
  obtain ⟨h1, h2, cur, hc⟩ := h
  exact ⟨h1, fun j hj => (World.cell?_of_block (a := ⟨g, j, none⟩) hb).trans (h2 j hj), cur, hb.trans hc⟩
theorem LRow.below {w w' : World} {g n : Nat} {ls : List Int} (h : LRow w g n ls) (hb : Below w.heap.size w w') : LRow w' g n ls := h.of_block (hb.block g h.lt)
theorem LRow.kd {S : Nat → Prop} {w w' : World} {g n : Nat} {ls : List Int} (h : LRow w g n ls) (hk : Kd S w w') (hS : ¬ S g) : LRow w' g n ls := by
  have h0 := h
  obtain ⟨h1, h2, cur, hc⟩ := h
  exact h0.of_block ((hk.obj g _ hc hS (fun k => by
    rcases k with ⟨c, f, k⟩ | ⟨c, f, k⟩
    · injection k with _ k; exact absurd k (by decide)
    · injection k with _ k; exact absurd k (by decide))).trans hc.symm)
theorem LRow.news {w : World} {g n : Nat} {ls : List Int} (h : LRow w g n ls) : ∀ j u, (i6s ls)[j]? = some u → w.cell? ((⟨g, 0, none⟩ : Addr).add j) = some u := fun j u hu => by
  obtain ⟨h1, h2, _⟩ := h
  have hj : j < ls.length := by
    rcases Nat.lt_or_ge j ls.length with x | x
    · exact x
    · rw [List.getElem?_eq_none (by rw [i6s_len]; omega)] at hu; cases hu
  rw [Addr.add_mid, Nat.zero_add, h2 j (by omega)]
  simp only [i6s, List.getElem?_map, List.getElem?_eq_getElem hj, Option.map_some] at hu ⊢
  rw [← hu]; rfl
set_option maxRecDepth 100000 in
set_option maxHeartbeats 1000000 in
theorem clone6_any (g n c : Nat) (ls : List Int) (w : World) (hr : LRow w g n ls) (hn : n ≤ 4096) :
    Calls Tryz.prog 143 #[.slice (some ⟨g, 0, none⟩) n c] w fun e w' => ∃ v, e = .returned v ∧ w'.ownsRow w.heap.size 2 1 v n (i6s ls) ∧ Below w.heap.size w w' := by
  obtain ⟨i0, hi, hz0, hz1, hz2⟩ := info_parts i6_info
  have HR := Lib.hid (hr.below ((Below.refl _ _).alloc (Nat.le_refl _) (Obj.cells #[] 2))).news
  have hl := hr.1
  have HL := Lib.hid hl
  have hne := fun W => nil_eq6 g 0 n c W
  clear hr hl
  go_enter Tryz.func143, Tryz.ntmps143
  go_wp2_with (at_builtin; refine wpList_append_own _ rfl _ _ 46 rfl w.heap.size 2 i0 (.int .i64 0) 1 8 Tryz.underlying46 hi hz0 hz1 hz2 rfl (by decide) _ _ _ rfl (empty_i6 w) ⟨g, 0, none⟩ n c (i6s ls) rfl (by rw [i6s_len, HL.out]; omega) HR.out (many_i6 _) (by unfold maxLen; omega) (by omega) (by simp) ?_)
  intro v' w2 hown2 hg2 _
  have hb : Below w.heap.size w w2 := ((Below.refl _ w).alloc (Nat.le_refl _) _).grown hg2 (by simp) (fun k hk => by simp [Value.ownBlock] at hk; omega)
  have HO : Hid (w2.ownsRow w.heap.size 2 1 v' n (i6s ls) ∧ Below w.heap.size w w2) := ⟨by simpa using hown2, hb⟩
  clear hg2 HR hown2 hb
  go_wp2
  go_ret
  exact ⟨_, rfl, HO.out⟩
set_option maxRecDepth 100000 in
set_option maxHeartbeats 2000000 in
theorem allLids_any (f : FR) (g : Nat) (ls : List Int) (w : World) (hla : f.la = some ⟨g, 0, none⟩) (hr : LRow w g f.ln ls) (hn : f.ln ≤ 4000) :
    Calls Tryz.prog 87 #[f.val] w fun e w' => ∃ v, e = .returned v ∧ w'.ownsRow w.heap.size 2 1 v (f.ln + 1) (i6s (ls ++ [f.lid])) ∧ Below w.heap.size w w' := by
  obtain ⟨i0, hi, hz0, hz1, hz2⟩ := info_parts i6_info
  obtain ⟨nm, lid, sz, la, ln, lc⟩ := f
  unfold FR.val
  simp only at *
  subst hla
  obtain ⟨W1, hW1⟩ : ∃ W1, w.alloc (.cells #[.int .i64 lid, .string nm, .int .i64 sz, .slice (some ⟨g, 0, none⟩) ln lc] 119) = W1 := ⟨_, rfl⟩
  have hb : Below w.heap.size w W1 := by rw [← hW1]; exact (Below.refl _ _).alloc (Nat.le_refl _) _
  have k1 : W1.heap[w.heap.size]? = some (.cells #[.int .i64 lid, .string nm, .int .i64 sz, .slice (some ⟨g, 0, none⟩) ln lc] 119 (0, 0)) := by rw [← hW1]; exact heap_alloc_new w _
  obtain ⟨⟨x0, x1, x2, x3⟩, _, _, _, _⟩ := four_ofF k1
  have l1 : w.heap.size < W1.heap.size := (Array.getElem?_eq_some_iff.1 k1).1
  have HC : Hid (∀ V, Below W1.heap.size W1 V → Calls Tryz.prog 143 #[.slice (some ⟨g, 0, none⟩) ln lc] V fun e w' => ∃ v, e = .returned v ∧ w'.ownsRow w.heap.size 2 1 v ln (i6s ls) ∧ Below V.heap.size V w' ∧ Below w.heap.size w w') := fun V hV => (clone6_any g ln lc ls V ((hr.below hb).below hV) (by omega)).mono fun e w' ⟨v, h1, h2, h3⟩ => ⟨v, h1, owns_base h2 (by have := hV.size; omega), h3, (hb.trans (hV.mono (by omega))).trans (h3.mono (by have := hV.size; omega))⟩
  have hBA : ∀ (V : World) (o : Obj), Below V.heap.size V (V.alloc o) := fun V o => (Below.refl _ _).alloc (Nat.le_refl _) _
  have HN : Hid (∀ (V V' : World), Below (V.alloc (.cells #[.int .i64 lid] 2)).heap.size (V.alloc (.cells #[.int .i64 lid] 2)) V' → ∀ j u, [Value.int .i64 lid][j]? = some u → V'.cell? ((⟨V.heap.size, 0, none⟩ : Addr).add j) = some u) := fun V V' hV j u hu => by
    have hk : V'.heap[V.heap.size]? = some (.cells #[.int .i64 lid] 2 (0, 0)) := (hV.block _ (by simp)).trans (heap_alloc_new V _)
    cases j with
    | zero => simp at hu; subst hu; simp [Addr.add_mid, World.cell?, hk]
    | succ j => simp at hu
  have HBA := Lib.hid hBA
  have HB := Lib.hid hb
  clear hr hb k1 hBA
  go_enter Tryz.func87, Tryz.ntmps87
  go_wp2_with fail
  go_region_law (first
    | (refine step_append_own rfl (.tmp 6) (.tmp 9) 46 rfl w.heap.size 2 i0 (.int .i64 0) 1 8 Tryz.underlying46 hi hz0 hz1 hz2 rfl (by decide) vc ln _ rfl (owns_below OW.out.1 (HBA.out _ _)) ⟨w2.heap.size, 0, none⟩ 1 1 [Value.int .i64 lid] rfl rfl (HN.out w2 _ (Below.refl _ _)) (by intro u hu; simp at hu; subst hu; rfl) (by unfold maxLen; omega) (by omega) (by have := OW.out.2.2.size; simp; omega) ?_; intro v3 w3 own3 grow3; have HO : Hid (w3.ownsRow w.heap.size 2 1 v3 (ln + 1) (i6s ls ++ [Value.int .i64 lid]) ∧ Below w.heap.size w w3) := ⟨own3, (OW.out.2.2.alloc OW.out.2.2.size _).grown grow3 (by have := OW.out.2.2.size; simp; omega) (fun k hk => (OW.out.1.lt k hk).1)⟩; clear own3 grow3 OW)
    | (refine step_append_own rfl (.tmp 6) (.tmp 9) 46 rfl w.heap.size 2 i0 (.int .i64 0) 1 8 Tryz.underlying46 hi hz0 hz1 hz2 rfl (by decide) vc ln _ rfl OW.out.1 ⟨W1.heap.size, 0, none⟩ 1 1 [Value.int .i64 lid] rfl rfl (HN.out W1 _ ((Below.refl _ _).drew.trans OW.out.2.1)) (by intro u hu; simp at hu; subst hu; rfl) (by unfold maxLen; omega) (by omega) OW.out.2.2.size ?_; intro v3 w3 own3 grow3; have HO : Hid (w3.ownsRow w.heap.size 2 1 v3 (ln + 1) (i6s ls ++ [Value.int .i64 lid]) ∧ Below w.heap.size w w3) := ⟨own3, OW.out.2.2.grown grow3 OW.out.2.2.size (fun k hk => (OW.out.1.lt k hk).1)⟩; clear own3 grow3 OW)
    | (go_simp; go_at_call 143; refine (HC.out _ (by first | exact (Below.refl _ _).drew | exact (HBA.out _ _).drew)).mono ?_; rintro e w2 ⟨vc, rfl, own2, hb2, hB2⟩; have l2 : W1.heap.size ≤ w2.heap.size := (by have := hb2.size; simp at this; omega); have y0 : w2.cell? ⟨w.heap.size, 0, none⟩ = some (.int .i64 lid) := (by first | exact (hb2.cell (by simp; omega)).trans x0 | exact (hb2.cell (by simp; omega)).trans ((World.cell?_of_block (a := ⟨w.heap.size, 0, none⟩) (heap_alloc_oldC _ _ _ l1)).trans x0)); have OW := Lib.hid (And.intro own2 (And.intro hb2 hB2)); clear own2 hb2 hB2))
  all_goals
    go_wp2
    go_ret
    exact ⟨_, rfl, by rw [show i6s (ls ++ [lid]) = i6s ls ++ [Value.int .i64 lid] from by simp [i6s]]; exact HO.out.1, HO.out.2⟩
end Go.Proofs.YtonpdbajoidigaaGreatDoor

/-
  FnSpace: the table of a set of files.
-/
namespace Go.Proofs.YtonpdbajoidigaaGreatDoor
open Go.RowKit
open Go.ChangeMaps (setBlock)
set_option linter.unusedSimpArgs false
set_option linter.unusedVariables false

theorem TAt.cells {B : Nat} {w : World} {gt tc n : Nat} {es : List (Int × Bool)} (h : TAt B w gt tc n es) (k : Nat) (hk : k < n) : (w.cell? ⟨gt, k * 2, none⟩ = some (.int .i64 (eA es k)) ∧ w.frozen? ⟨gt, k * 2, none⟩ = false) ∧ w.cell? ⟨gt, k * 2 + 1, none⟩ = some (.bool (eI es k)) ∧ w.frozen? ⟨gt, k * 2 + 1, none⟩ = false := by
  obtain ⟨a', c', e', he⟩ := owns_e h
  injection e' with e1' e2' e3'
  subst e1'
  rcases he.2 with h0 | ⟨g', off', e4, _, hcell⟩
  · omega
  injection e4 with e4
  injection e4 with e5 e6
  subst e5; subst e6
  have := hcell k hk
  rw [Nat.zero_add] at this
  exact this
/-- A file with its lids. -/
abbrev FP := FR × List Int
def FP.all (p : FP) : List Int := p.2 ++ [p.1.lid]
structure FOk (w : World) (n : Nat) (p : FP) : Prop where
  row : ∃ g, p.1.la = some ⟨g, 0, none⟩ ∧ LRow w g p.1.ln p.2
  few : p.1.ln ≤ 22
  low : ∀ x ∈ p.all, 1 ≤ x ∧ x ≤ (n : Int)
theorem FOk.below {w w' : World} {n : Nat} {p : FP} (h : FOk w n p) (hb : Below w.heap.size w w') : FOk w' n p := by
  obtain ⟨⟨g, h1, h2⟩, h3, h4⟩ := h
  exact ⟨⟨g, h1, h2.below hb⟩, h3, h4⟩
theorem FR.val_inj {f g : FR} (h : f.val = g.val) : f = g := by
  obtain ⟨a1, a2, a3, a4, a5, a6⟩ := f
  obtain ⟨b1, b2, b3, b4, b5, b6⟩ := g
  unfold FR.val at h
  simp at h
  obtain ⟨h1, h2, h3, h4, h5, h6⟩ := h
  subst h1; subst h2; subst h3; subst h4; subst h5; subst h6
  rfl
theorem LRow.inj {w : World} {g n : Nat} {xs ys : List Int} (h : LRow w g n xs) (k : LRow w g n ys) : xs = ys := by
  obtain ⟨h1, h2, _⟩ := h
  obtain ⟨k1, k2, _⟩ := k
  apply List.ext_getElem (by omega)
  intro i hi hi'
  have a := h2 i (by omega)
  rw [k2 i (by omega)] at a
  rw [List.getElem?_eq_getElem hi, List.getElem?_eq_getElem hi'] at a
  simp at a
  exact a.symm
theorem FOk.inj {w : World} {n : Nat} {p p' : FP} (h : FOk w n p) (k : FOk w n p') (e : p.1.val = p'.1.val) : p = p' := by
  have e1 := FR.val_inj e
  obtain ⟨⟨g, h1, h2⟩, _⟩ := h
  obtain ⟨⟨g', k1, k2⟩, _⟩ := k
  rw [e1, k1] at h1
  injection h1 with h1
  injection h1 with h1
  subst h1
  rw [e1] at h2
  exact Prod.ext e1 (h2.inj k2)
def CovP (ps : List FP) (i : Nat) : Prop := ∃ p ∈ ps, ((i : Int) + 1) ∈ p.all
/-- What a table of files has of the engine's. -/
structure TOf (n : Nat) (ps : List FP) (es es' : List (Int × Bool)) : Prop where
  from' : ∀ i, i < n → eA es' i ≠ 0 → eA es' i = eA es i ∧ CovP ps i
  has : ∀ p ∈ ps, ∀ y ∈ p.all, eA es' (y.toNat - 1) = eA es (y.toNat - 1)
/-- The table behind some of the files. -/
structure TSeen (n : Nat) (ps : List FP) (arr : Array MapEntry) (seen : Array Nat) (es es' : List (Int × Bool)) : Prop where
  from' : ∀ i, i < n → eA es' i ≠ 0 → eA es' i = eA es i ∧ CovP ps i
  has : ∀ x ∈ arr.toList, seen.contains x.born = true → ∀ p ∈ ps, p.1.val = x.val → ∀ y ∈ p.all, eA es' (y.toNat - 1) = eA es (y.toNat - 1)
/-- The table behind some of the lids of one file. -/
structure TLid (n : Nat) (ids : List Int) (k : Nat) (es es0 es' : List (Int × Bool)) : Prop where
  len : es'.length = n
  or' : ∀ i, i < n → eA es' i = eA es0 i ∨ (eA es' i = eA es i ∧ ((i : Int) + 1) ∈ ids)
  keep : ∀ i, eA es0 i = eA es i → eA es' i = eA es i
  has : ∀ j, j < k → ∀ y, ids[j]? = some y → eA es' (y.toNat - 1) = eA es (y.toNat - 1)
theorem TLid.start {n : Nat} {ids : List Int} {es es0 : List (Int × Bool)} (h : es0.length = n) : TLid n ids 0 es es0 es0 := ⟨h, fun i _ => .inl rfl, fun i h => h, fun j hj => absurd hj (Nat.not_lt_zero _)⟩
theorem TLid.step {n : Nat} {ids : List Int} {k : Nat} {es es0 es' : List (Int × Bool)} (h : TLid n ids k es es0 es') {ld : Nat} (hk : ids[k]? = some (ld : Int)) (h1 : 1 ≤ ld) (h2 : ld ≤ n) (y : Bool) : TLid n ids (k + 1) es es0 (es'.set (ld - 1) (eA es (ld - 1), y)) := by
  have hset : ∀ i, eA (es'.set (ld - 1) (eA es (ld - 1), y)) i = if i = ld - 1 then eA es (ld - 1) else eA es' i := fun i => eA_set es' (ld - 1) i _ _ (by rw [h.len]; omega)
  refine ⟨by rw [List.length_set]; exact h.len, fun i hi => ?_, fun i hi => ?_, fun j hj z hz => ?_⟩
  · rw [hset]
    by_cases e : i = ld - 1
    · rw [if_pos e]
      refine .inr ⟨by rw [e], ?_⟩
      rw [show ((i : Int) + 1) = (ld : Int) by omega]
      exact List.mem_of_getElem? hk
    · rw [if_neg e]; exact h.or' i hi
  · rw [hset]
    by_cases e : i = ld - 1
    · rw [if_pos e, e]
    · rw [if_neg e]; exact h.keep i hi
  · rw [hset]
    by_cases e : z.toNat - 1 = ld - 1
    · rw [if_pos e, e]
    · rw [if_neg e]
      by_cases hjk : j = k
      · subst hjk
        rw [hk] at hz
        injection hz with hz
        subst hz
        exact absurd (by simp) e
      · exact h.has j (by omega) z hz
theorem TLid.fin {w : World} {n : Nat} {ps : List FP} {arr : Array MapEntry} {seen : Array Nat} {es es0 es' : List (Int × Bool)} {p : FP} {e : MapEntry} (h : TLid n p.all p.all.length es es0 es') (hs : TSeen n ps arr seen es es0) (hp : p ∈ ps) (hok : ∀ p ∈ ps, FOk w n p) (he : e.val = p.1.val) (hn : (arr.toList.map (·.born)).Nodup) (hm : e ∈ arr.toList) : TSeen n ps arr (seen.push e.born) es es' := by
  refine ⟨fun i hi hne => ?_, fun x hx hsx p' hp' hv y hy => ?_⟩
  · rcases h.or' i hi with h1 | ⟨h1, h2⟩
    · rw [h1] at hne ⊢
      exact hs.from' i hi hne
    · exact ⟨h1, p, hp, h2⟩
  · by_cases hxe : x.born = e.born
    · have hxe' := born_inj hn hx hm hxe
      subst hxe'
      obtain rfl : p' = p := (hok p' hp').inj (hok p hp) (hv.trans he)
      obtain ⟨j, hj, rfl⟩ := List.getElem_of_mem hy
      exact h.has j hj _ (List.getElem?_eq_getElem hj)
    · have : seen.contains x.born = true := by
        rw [contains_push] at hsx
        simpa [hxe] using hsx
      exact h.keep _ (hs.has x hx this p' hp' hv y hy)
theorem TSeen.fin {n : Nat} {ps : List FP} {arr : Array MapEntry} {seen : Array Nat} {es es' : List (Int × Bool)} (h : TSeen n ps arr seen es es') (h0 : (leftOf arr seen).size = 0) (hm : arr.toList.map (fun x : MapEntry => (x.key, x.val)) = (ps.map (·.1)).map (fun f => (Value.string f.nm, f.val))) : TOf n ps es es' :=
  ⟨h.from', fun p hp y hy => by
    have hx : (Value.string p.1.nm, p.1.val) ∈ arr.toList.map (fun x : MapEntry => (x.key, x.val)) := by
      rw [hm]
      exact List.mem_map.2 ⟨p.1, List.mem_map.2 ⟨p, hp, rfl⟩, rfl⟩
    obtain ⟨x, hx, e⟩ := List.mem_map.1 hx
    injection e with e1 e2
    exact h.has x hx (all_seen arr seen h0 x hx) p hp e2.symm y hy⟩
end Go.Proofs.YtonpdbajoidigaaGreatDoor

/-
  FnSpace: tableOf.
-/
namespace Go.Proofs.YtonpdbajoidigaaGreatDoor
open Go.RowKit
open Go.ChangeMaps (setBlock)
set_option linter.unusedSimpArgs false
set_option linter.unusedVariables false

theorem made_eC (n : Nat) : (madeCells #[.int .i64 0, .bool false] (n * 2)).toList = eC (List.replicate n (0, false)) := by
  apply List.ext_getElem?
  intro i
  rcases Nat.lt_or_ge i (n * 2) with h | h
  · have hk : i / 2 < n := by omega
    obtain ⟨m1, m2⟩ := made_twoE (.int .i64 0) (.bool false) n (i / 2) hk
    obtain ⟨q1, q2⟩ := eC_at (List.replicate n (0, false)) (i / 2) (by simpa using hk)
    have ea : eA (List.replicate n ((0 : Int), false)) (i / 2) = 0 := by unfold eA; rw [List.getElem?_replicate, if_pos hk]; rfl
    have ei : eI (List.replicate n ((0 : Int), false)) (i / 2) = false := by unfold eI; rw [List.getElem?_replicate, if_pos hk]; rfl
    rcases (show i = i / 2 * 2 ∨ i = i / 2 * 2 + 1 by omega) with e | e
    · rw [e, m1, q1, ea]
    · rw [e, m2, q2, ei]
  · rw [List.getElem?_eq_none (by rw [Array.length_toList, size_madeCells]; exact h), List.getElem?_eq_none (by rw [eC_len, List.length_replicate]; exact h)]
theorem eA_zero (n i : Nat) : eA (List.replicate n ((0 : Int), false)) i = 0 := by
  unfold eA
  rw [List.getElem?_replicate]
  split <;> rfl
theorem kept_iter (w : World) (r : Nat) (o : Obj) : Kept (fun g => g = r) w (setBlock w r o) := kept_map w r o
/-- The walk over a set of files. -/
structure TW (w wr : World) (gn it r n clock : Nat) (seen : Array Nat) (ps : List FP) (arr : Array MapEntry) (es : List (Int × Bool)) : Prop where
  bel : Below w.heap.size w wr
  iter : wr.heap[it]? = some (.mapIter (some r) clock seen clock)
  tab : ∃ es', TAt w.heap.size wr gn n n es' ∧ TSeen n ps arr seen es es'
theorem TW.seen {w wr : World} {gn it r n clock : Nat} {seen : Array Nat} {ps : List FP} {arr : Array MapEntry} {es : List (Int × Bool)} (h : TW w wr gn it r n clock seen ps arr es) : wr.iterSeen it = seen := by
  unfold World.iterSeen; rw [h.iter]
set_option maxRecDepth 100000 in
set_option maxHeartbeats 4000000 in
theorem tableOf_any (B E C : Nat) (s b : Int) (W Dm gt tc n : Nat) (es : List (Int × Bool)) (q a u o : Int) (hs : List Value) (r : Nat) (ps : List FP) (w : World) (hE : EngAt w E C s b W Dm (.slice (some ⟨gt, 0, none⟩) n tc) q a u o hs) (hT : TAt B w gt tc n es) (hn1 : 1 ≤ n) (hn : n ≤ 1024) (hM : MF w r (ps.map (·.1))) (hok : ∀ p ∈ ps, FOk w n p) :
    Calls Tryz.prog 54 #[.pointer (some ⟨E, 0, none⟩), .agg #[.map (some r)]] w fun e w' => ∃ gn es', e = .returned (.slice (some ⟨gn, 0, none⟩) n n) ∧ TAt w.heap.size w' gn n n es' ∧ TOf n ps es es' ∧ Below w.heap.size w w' := by
  obtain ⟨i0, hi, hz0, hz1, hz2⟩ := info_parts info164
  obtain ⟨W1, hW1⟩ : ∃ W1, w.alloc (.cells #[.map (some r)] 60) = W1 := ⟨_, rfl⟩
  have hb : Below w.heap.size w W1 := by rw [← hW1]; exact (Below.refl _ _).alloc (Nat.le_refl _) _
  have k1 : W1.heap[w.heap.size]? = some (.cells #[.map (some r)] 60 (0, 0)) := by rw [← hW1]; exact heap_alloc_new w _
  have s1 : W1.heap.size = w.heap.size + 1 := by rw [← hW1]; simp
  have hlE := hE.lt
  have c10 : W1.cell? ⟨E, 10, none⟩ = some (.slice (some ⟨gt, 0, none⟩) n tc) := (hb.cell hlE).trans hE.c10
  obtain ⟨arr, clock, hm1, hm2, hst⟩ := hM
  have hrl : r < w.heap.size := (Array.getElem?_eq_some_iff.1 hm1).1
  have hgl : gt < w.heap.size := (hT.lt gt rfl).2
  have HE := Lib.hid hE.c10
  have HT := Lib.hid hT
  have HM := Lib.hid (And.intro hm1 (And.intro hm2 hst))
  have HOK := Lib.hid hok
  have HB1 := Lib.hid hb
  clear hE hT hm1 hm2 hst hok hb
  go_enter Tryz.func54, Tryz.ntmps54
  go_wp2_with (at_make; refine wpList_make_full _ rfl _ _ 45 rfl w.heap.size 164 i0 (.agg #[.int .i64 0, .bool false]) 2 Tryz.underlying45 hi hz0 hz1 .i64 .i64 _ _ n rfl rfl rfl rfl ?c1 ?c2 ?c3 ?_)
  case c1 => rw [hz2]; omega
  case c2 => unfold maxLen; omega
  case c3 => omega
  intro w1 hown hgrow
  have hb2 : Below w.heap.size w w1 := HB1.out.trans ((Below.of_grown hgrow).mono (by omega))
  have k2 : w1.heap[w.heap.size]? = some (.cells #[.map (some r)] 60 (0, 0)) := ((Below.of_grown hgrow).block _ (by omega)).trans k1
  have hl1 : w.heap.size < w1.heap.size := (Array.getElem?_eq_some_iff.1 k2).1
  have x0 := cell_oneB k2
  have hm1 : w1.heap[r]? = some (.map arr clock) := (hb2.block r hrl).trans HM.out.1
  have hrg := run_range_map (P := Tryz.prog) w1 58 9 119 r arr clock Tryz.underlying58 hm1
  have HTW : Hid (TW w (w1.alloc (.mapIter (some r) clock #[] clock)) (w.heap.size + 1) w1.heap.size r n clock #[] ps arr es) := by
    rw [made_eC] at hown
    refine ⟨hb2.alloc hb2.size _, heap_alloc_new w1 _, _, TAt.kd (S := fun _ => False) hown (Kd.of_below ((Below.refl _ _).alloc (Nat.le_refl _) _)) id, ⟨fun i _ hne => absurd (eA_zero n i) hne, fun x hx hs => by simp at hs⟩⟩
  have hgn : w.heap.size + 1 ≠ w1.heap.size := by have := made_size hown; omega
  have hgn' : w.heap.size ≤ w.heap.size + 1 := by omega
  clear hown hgrow k1 c10 hi hz0 hz1 hz2 hm1 k2 HB1
  clear s1
  generalize w.heap.size + 1 = gn at *
  have HBI := Lib.hid hb2.size
  clear hb2
  go_wp2
  generalize w1.heap.size = it at *
  go_loopw [7] (fun p wr => ∃ seen, Hid (TW w wr gn it r n clock seen ps arr es)) (fun _ wr => (leftOf arr (wr.iterSeen it)).size)
  case atStart => exact ⟨#[], HTW⟩
  case round =>
    obtain ⟨seen, HS⟩ := hrel
    clear HTW hrg x0
    obtain ⟨hbel, hiter, es1, hT1, hS1⟩ := HS.out
    have HMS := Lib.hid HS.out.seen
    have hm1 : wr.heap[r]? = some (.map arr clock) := (hbel.block r hrl).trans HM.out.1
    rcases run_next_at (P := Tryz.prog) wr 0 it r clock clock seen arr clock hiter hm1 HM.out.2.2.1 (Nat.le_refl _) with ⟨h0, hrun⟩ | ⟨e, he, w2, hw2, hrun⟩
    · have hnx : ∀ ty, (Instr.next (.pointer (some ⟨it, 0, none⟩)) false ty).run Tryz.prog wr = .ok (.tuple #[.bool false]) wr := fun _ => hrun
      have HF : Hid (TAt w.heap.size wr gn n n es1 ∧ TOf n ps es es1 ∧ Below w.heap.size w wr) := ⟨hT1, hS1.fin h0 HM.out.2.1, hbel⟩
      clear hrun h0 hm1 hT1 hS1 hbel hiter HS
      go_wp2
      go_ret
      exact ⟨_, _, rfl, HF.out⟩
    · obtain ⟨f, hf, _, hv⟩ := key_of HM.out.2.1 (mem_left he).1
      obtain ⟨p, hp, rfl⟩ := List.mem_map.1 hf
      obtain ⟨V, hV⟩ : ∃ V, setBlock w2 it (.mapIter (some r) clock (seen.push e.born) clock) = V := ⟨_, rfl⟩
      rw [hV] at hrun
      have hbw2 : Below wr.heap.size wr w2 := by
        rcases hw2 with rfl | rfl
        · exact Below.refl _ _
        · exact (Below.refl _ _).drew
      have hitl : it < wr.heap.size := (Array.getElem?_eq_some_iff.1 hiter).1
      have hkV : Kept (fun g => g = it) wr V := by rw [← hV]; exact (Kept.of_below hbw2 _).trans (kept_iter w2 it _)
      have hVit : V.heap[it]? = some (.mapIter (some r) clock (seen.push e.born) clock) := by
        rw [← hV]
        have := hbw2.size
        show (w2.heap.setIfInBounds it _)[it]? = _
        rw [Array.getElem?_setIfInBounds_self_of_lt (by omega)]
      have hVb : Below w.heap.size w V := hbel.trans (hkV.below hbel.size (fun g hg => by rw [hg]; exact HBI.out))
      have hVT : TAt w.heap.size V gn n n es1 := hT1.kd (S := fun g => g = it) (Kd.of_kept hkV fun g hg => .inl hg) hgn
      have hVm : V.heap[r]? = some (.map arr clock) := (hVb.block r hrl).trans HM.out.1
      have hen := run_entry_at (P := Tryz.prog) V it r clock seen arr clock e hVit hVm (mem_left he).1 HM.out.2.2.2.1
      have hnx : ∀ ty, (Instr.next (.pointer (some ⟨it, 0, none⟩)) false ty).run Tryz.prog wr = .ok (.tuple #[.bool true, e.key, e.val]) V := fun _ => hrun
      have hVn : V.heap.size = wr.heap.size := by
        rw [← hV]
        show (w2.heap.setIfInBounds it _).size = _
        rw [Array.size_setIfInBounds]
        rcases hw2 with rfl | rfl <;> rfl
      have HOP := Lib.hid ((HOK.out p hp).below hVb)
      have HAL : Hid (∀ V', Below V.heap.size V V' → Calls Tryz.prog 87 #[p.1.val] V' fun e w' => ∃ v, e = .returned v ∧ w'.ownsRow V.heap.size 2 1 v (p.1.ln + 1) (i6s p.all) ∧ Below V.heap.size V w') := fun V' hV' => by
        obtain ⟨g, h1, h2⟩ := HOP.out.row
        have := HOP.out.few
        exact (allLids_any p.1 g p.2 V' h1 (h2.below hV') (by omega)).mono fun e w' ⟨v, h1, h2, h3⟩ => ⟨v, h1, owns_base h2 hV'.size, hV'.trans (h3.mono hV'.size)⟩
      have HVS : Hid (TAt w.heap.size V gn n n es1 ∧ TSeen n ps arr seen es es1 ∧ Below w.heap.size w V ∧ V.heap[it]? = some (.mapIter (some r) clock (seen.push e.born) clock)) := ⟨hVT, hS1, hVb, hVit⟩
      have HEM := Lib.hid (And.intro he (And.intro hp hv))
      have hVw : w.heap.size ≤ V.heap.size := hVb.size
      rw [hv] at hen hnx
      have hln := HOP.out.few
      clear hrun hm1 hT1 hS1 hbel hiter HS hV hw2 hbw2 hkV hVit hVT hVm hVb hVn hv hf hp he hitl
      obtain ⟨⟨nm, lid, sz, la, ln, lc⟩, ls⟩ := p
      unfold FR.val at hen hnx HAL
      simp only at hen hnx HAL hln
      obtain ⟨ids, hid⟩ : ∃ ids, FP.all (⟨nm, lid, sz, la, ln, lc⟩, ls) = ids := ⟨_, rfl⟩
      have HLE := Lib.hid hid
      rw [hid] at HAL
      have HLO : Hid (∀ x ∈ ids, 1 ≤ x ∧ x ≤ (n : Int)) := by rw [← hid]; exact HOP.out.low
      clear hid
      go_wp2_with fail
      refine (HAL.out _ (by repeat' (first | with_reducible refine Below.setCell ?_ ?_ _ | with_reducible refine Below.alloc ?_ ?_ _ | with_reducible refine Below.drew ?_ | with_reducible refine below_drewN ?_ _ | with_reducible assumption | with_reducible exact Below.refl _ _ | (simp; done) | (simp; omega) | omega))).mono ?_
      rintro e' w3 ⟨v, rfl, own3, hb3⟩
      obtain ⟨gr, cr, rfl⟩ : ∃ gr cr, v = .slice (some ⟨gr, 0, none⟩) (ln + 1) cr := by
        rcases own3.2 with ⟨_, h0⟩ | ⟨g', cap', cur, e1, _⟩
        · omega
        · exact ⟨g', cap', e1⟩
      have HR3 : Hid (ids.length = ln + 1 ∧ ∀ k, k < ln + 1 → w3.cell? ⟨gr, k, none⟩ = some (.int .i64 (ids[k]?.getD 0))) := by
        have hl : ids.length = ln + 1 := by have := own3.1; rw [i6s_len] at this; omega
        refine ⟨hl, fun k hk => ?_⟩
        have := own3.cellAt k (by omega)
        rw [this, i6s, List.getElem?_map, List.getElem?_eq_getElem (by omega)]
        rfl
      have hgr : V.heap.size ≤ gr ∧ gr < w3.heap.size := own3.lt gr rfl
      have hgne : gr ≠ gn := by have := HVS.out.1.lt gn rfl; omega
      have HW3 : Hid (TAt w.heap.size w3 gn n n es1 ∧ Below w.heap.size w w3 ∧ w3.heap[it]? = some (.mapIter (some r) clock (seen.push e.born) clock)) := by
        obtain ⟨h1, h2, h3, h4⟩ := HVS.out
        exact ⟨h1.kd (S := fun _ => False) (Kd.of_below hb3) id, h3.trans (hb3.mono hVw), (hb3.block it (Array.getElem?_eq_some_iff.1 h4).1).trans h4⟩
      have hln1 : ((ln : Nat) : Int) + 1 = ((ln + 1 : Nat) : Int) := by omega
      clear own3 hb3 HAL hen hnx
      generalize hLN : ln + 1 = lm at *
      have hlm : lm ≤ 23 := by omega
      clear hLN hln1
      go_wp2
      go_loopw [26] (fun i wr => ∃ k : Nat, k ≤ lm ∧ i = .int .i64 k ∧ Hid (Kept (fun g => g = gn) w3 wr ∧ ∃ es2, TAt w.heap.size wr gn n n es2 ∧ TLid n ids k es es1 es2)) (fun i _ => lm - (intOf i).toNat)
      case atStart => exact ⟨0, Nat.zero_le _, rfl, Kept.refl _ _, es1, HW3.out.1, TLid.start HW3.out.1.len⟩
      case round =>
        obtain ⟨k, hk, rfl, HK⟩ := hrel
        by_cases hlt : k < lm
        · have hlt' : (k : Int) < (lm : Int) := by omega
          have h0' : (0 : Int) ≤ (k : Int) := by omega
          obtain ⟨hkp, es2, hT2, hL2⟩ := HK.out
          have hbq : Below w.heap.size w wr := HW3.out.2.1.trans (hkp.below HW3.out.2.1.size (fun g hg => by rw [hg]; exact (HW3.out.1.lt gn rfl).1))
          have cr3 := (World.cell?_of_block (a := ⟨gr, k, none⟩) (hkp.block gr hgr.2 hgne)).trans (HR3.out.2 k hlt)
          have c10 := (hbq.cell hlE).trans HE.out
          obtain ⟨ld, hld, hl1, hl2⟩ : ∃ ld : Nat, ids[k]? = some (ld : Int) ∧ 1 ≤ ld ∧ ld ≤ n := by
            have hkl : k < ids.length := by rw [HR3.out.1]; exact hlt
            have := HLO.out ids[k] (List.getElem_mem hkl)
            exact ⟨ids[k].toNat, by rw [List.getElem?_eq_getElem hkl]; congr 1; omega, by omega, by omega⟩
          rw [hld] at cr3
          simp only [Option.getD_some] at cr3
          have hTq : TAt B wr gt tc n es := HT.out.kd (S := fun g => w.heap.size ≤ g) ⟨hbq.os, hbq.tape, hbq.output, hbq.size, fun g o h1 _ _ => (hbq.block g (Array.getElem?_eq_some_iff.1 h1).1).trans h1⟩ (by omega)
          obtain ⟨⟨t1, _⟩, t3, _⟩ := hTq.cells (ld - 1) (by omega)
          obtain ⟨⟨u1, u2⟩, u3, u4⟩ := hT2.cells (ld - 1) (by omega)
          have hlid : ((ld : Int) - 1).toNat = ld - 1 := by omega
          have hli0 : (0 : Int) ≤ (ld : Int) - 1 := by omega
          have hli1 : (ld : Int) - 1 < (n : Int) := by omega
          have HN : Hid (Kept (fun g => g = gn) w3 ((wr.setCell ⟨gn, (ld - 1) * 2, none⟩ (.int .i64 (eA es (ld - 1)))).setCell ⟨gn, (ld - 1) * 2 + 1, none⟩ (.bool (eI es (ld - 1)))) ∧ ∃ es2, TAt w.heap.size ((wr.setCell ⟨gn, (ld - 1) * 2, none⟩ (.int .i64 (eA es (ld - 1)))).setCell ⟨gn, (ld - 1) * 2 + 1, none⟩ (.bool (eI es (ld - 1)))) gn n n es2 ∧ TLid n ids (k + 1) es es1 es2) :=
            ⟨hkp.trans ((Kept.setCell _ ⟨gn, _, none⟩ _ (fun g => g = gn) rfl).trans (Kept.setCell _ ⟨gn, _, none⟩ _ (fun g => g = gn) rfl)), _, hT2.set (ld - 1) (by omega) (eA es (ld - 1)) (eI es (ld - 1)), hL2.step hld hl1 hl2 _⟩
          clear HK hkp hT2 hL2 hbq hTq hld
          go_wp2
          go_roundw
          case rel => exact ⟨k + 1, by omega, by go_num, HN⟩
          case measure => simp [intOf]; omega
        · obtain rfl : k = lm := by omega
          have HEND : Hid (TW w wr gn it r n clock (seen.push e.born) ps arr es) := by
            obtain ⟨hkp, es2, hT2, hL2⟩ := HK.out
            rw [← HR3.out.1] at hL2
            exact ⟨HW3.out.2.1.trans (hkp.below HW3.out.2.1.size (fun g hg => by rw [hg]; exact (HW3.out.1.lt gn rfl).1)), (hkp.block it (Array.getElem?_eq_some_iff.1 HW3.out.2.2).1 (fun x => hgn x.symm)).trans HW3.out.2.2, es2, hT2, TLid.fin (p := (⟨nm, lid, sz, la, ln, lc⟩, ls)) (by rw [HLE.out]; exact hL2) HVS.out.2.1 HEM.out.2.1 HOK.out HEM.out.2.2 HM.out.2.2.2.1 (mem_left HEM.out.1).1⟩
          clear HK
          go_wp2
          go_roundw
          case rel => exact ⟨_, HEND⟩
          case measure =>
            rw [HEND.out.seen, HMS.out]
            exact left_shrinks arr seen e HEM.out.1
end Go.Proofs.YtonpdbajoidigaaGreatDoor
