/-
  The program's FormatDisk, at a valid geometry.
-/
import Derived.Test.YtkkammbfomiofacFmts
namespace Go.Proofs.Ytkkammbfomiofac
open Go.RowKit
set_option linter.unusedSimpArgs false
set_option linter.unusedVariables false

theorem kept_setRow (w : World) (g : Nat) (cs : Array Value) : Kept (fun x => x = g) w (w.setRow g cs) :=
  ⟨rfl, rfl, rfl, by simp [World.setRow], fun j _ hj => setRow_other w g j cs hj⟩
theorem step_copy_kept {P : Program} {ops : Array Oper} {o : Oper} {a : Act} {w : World} {K : Act → World → Prop} {Q : Exit → Act → World → Prop} {E : Prop} (hgd : o.guard = none) (d s : Operand) (dT sT : TypeId)
    (ho : o.op = .call { callee := .builtin .copy, args := #[d, s], argTypes := #[dT, sT] }) (elem : TypeId) (hu : P.underlying dT = some (.slice elem)) (hsz : (P.info? elem).map (·.size) = some 1)
    (dLen dCap sLen sCap g off : Nat) (ad : Addr) (hd : a.eval d = .slice (some ⟨g, off, none⟩) dLen dCap) (hs : a.eval s = .slice (some ad) sLen sCap)
    (cur : List Value) (t : TypeId) (hg : w.heap[g]? = some (.cells cur.toArray t (0, 0))) (cs : List Value) (hn : cs.length = Nat.min sLen dLen)
    (hsrc : ∀ j v, cs[j]? = some v → w.cell? (ad.add j) = some v) (hfit : off + cs.length ≤ cur.length) (h1 : ∀ v ∈ cs, v.oneCell' = true)
    (h : ∀ w', Hid (w'.heap[g]? = some (.cells (splice cur off cs).toArray t (0, 0))) → Kept (fun x => x = g) w w' → K (a.put o.dst (goInt cs.length)) w') :
    if Region.wanted o (yielded ops a.tmps) = true then Oper.wp P o a w K Q else E := by
  have hw : Region.wanted o (yielded ops a.tmps) = true := by simp [Region.wanted, hgd]
  rw [if_pos hw]
  have hrun := run_copy_row (P := P) w dT sT o.type elem g off dLen dCap ad sLen sCap cur.toArray t cs hu hsz hg hn hsrc (by simpa using hfit) h1
  unfold Oper.wp
  simp [execOp, ho, resolve, invoke, builtin, hd, hs, hrun, Result.andThen]
  exact h _ (show _ = _ by simpa [splice] using setRow_heap w g _ _ t _ hg) (kept_setRow w g _)
theorem src_cells {w : World} {g : Nat} {H : List Int} {t : TypeId} (h : w.heap[g]? = some (.cells (u8s H).toArray t (0, 0))) : ∀ j v, (u8s H)[j]? = some v → w.cell? ((⟨g, 0, none⟩ : Addr).add j) = some v := by
  intro j v hj
  have e : (⟨g, 0, none⟩ : Addr).add j = ⟨g, j, none⟩ := by
    unfold Addr.add
    by_cases h0 : j = 0 <;> simp [h0]
  rw [e, cell_of_row w g j _ _ _ h]
  simpa using hj
theorem after_row (w : World) (old X : Array Value) (t : TypeId) : ((w.alloc (.cells old t)).setRow w.heap.size X).heap[w.heap.size]? = some (.cells X t (0, 0)) ∧ Below w.heap.size w ((w.alloc (.cells old t)).setRow w.heap.size X) ∧ w.heap.size < ((w.alloc (.cells old t)).setRow w.heap.size X).heap.size := by
  have h := setRow_heap (w.alloc (.cells old t)) w.heap.size old X t (0, 0) (heap_alloc_new w _)
  exact ⟨h, below_setRow ((Below.refl _ _).alloc (Nat.le_refl _) _) (Nat.le_refl _) X, (Array.getElem?_eq_some_iff.1 h).1⟩
theorem fmt_splice (T N : Nat) (H : List Int) (hl : H.length = 64) (h : (1 + T) * 64 + 64 ≤ N * 64) : splice (u8s (List.replicate (N * 64) 0)) ((1 + T) * 64) (u8s H) = u8s (padL (List.replicate ((1 + T) * 64) 0 ++ H) (N * 64)) := by
  simp only [splice, padL, u8s, List.map_append, List.map_replicate, List.length_map, List.length_append, List.length_replicate, List.take_replicate, List.drop_replicate, List.append_assoc, hl]
  rw [Nat.min_eq_left (by omega), show N * 64 - ((1 + T) * 64 + 64) = N * 64 - ((1 + T) * 64 + 64) from rfl]

set_option maxHeartbeats 4000000 in
set_option maxRecDepth 100000 in
theorem implFmt_good (s b : Int) (T N : Nat) (w : World) (hv : vG s b = true) (hT : nblk (2 * (s * b)) = (T : Int)) (hN : logN s b + s * b = (N : Int)) :
    Calls Try.prog 27 #[.agg #[.int .i64 s, .int .i64 b]] w fun e w' => ∃ a c, e = .returned (.agg #[.slice a (N * 64) c, .slice none 0 0]) ∧ Row .u8 (fun g => w.heap.size ≤ g ∧ g < w'.heap.size) w' a (N * 64) (padL (List.replicate ((1 + T) * 64) 0 ++ hdrL 1 s b) (N * 64)) ∧ Below w.heap.size w w' := by
  obtain ⟨v1, v2, v3⟩ := fmt_bounds hv hT hN
  have hL := layout_impl s b
  rw [layA_nat hv hT hN] at hL
  have hE := fun v => headerBlock_any 1 s b v (hdr_ok hv)
  have hX : (u8s (hdrL 1 s b)).toArray.size = 64 := by rw [List.size_toArray, u8s_len, hdrL_len]
  have h1X := u8_all (hdrL 1 s b)
  have HL : Hid ((hdrL 1 s b).length = 64) := hdrL_len 1 s b
  clear hT hN
  generalize hdrL 1 s b = H at *
  generalize s * b = P at *
  generalize logN s b = L at *
  go_enter Try.func27, Try.ntmps27
  go_wp2_with fail
  refine (validGeometry_any s b _).mono ?_
  rintro e w1 ⟨rfl, hb1⟩
  rw [hv]
  obtain ⟨k0, k1, hB1⟩ := two_kept hb1
  obtain ⟨⟨c0, c1⟩, _, _⟩ := cells2g k0
  clear hb1 hv
  go_wp2_with fail
  refine (hL _).mono ?_
  rintro e w2 ⟨rfl, hb2⟩
  have z0 := (Array.getElem?_eq_some_iff.1 k0).1
  have z1 := (Array.getElem?_eq_some_iff.1 k1).1
  have j0 := (hb2.block w.heap.size z0).trans k0
  have j1 := (hb2.block (w.heap.size + 1) z1).trans k1
  have hB2 := hB1.trans (hb2.mono hB1.size)
  have y0 := (Array.getElem?_eq_some_iff.1 j0).1
  have y1 := (Array.getElem?_eq_some_iff.1 j1).1
  clear hb2 hL k0 k1 c0 c1 hB1 z0 z1
  go_wp2_with fail
  refine (newDisk_block N _ (by omega) (by omega)).mono ?_
  rintro e w3 ⟨rfl, g3, hb3⟩
  have es : ∀ o, (w2.alloc o).heap.size = w2.heap.size + 1 := fun _ => by simp
  rw [es] at g3 ⊢
  have hb3' : Below w2.heap.size w2 w3 := ((Below.refl _ _).alloc (Nat.le_refl _) _).trans (hb3.mono (by simp))
  have p3 := (hb3.block w2.heap.size (by simp)).trans (heap_alloc_new w2 _)
  have j3 := (hb3'.block w.heap.size y0).trans j0
  have r3 := (hb3'.block (w.heap.size + 1) y1).trans j1
  have hB3 := hB2.trans (hb3'.mono hB2.size)
  have s3 := (Array.getElem?_eq_some_iff.1 g3).1
  have HG : Hid (w3.heap[w2.heap.size + 1 + 1]? = some (.cells (u8s (List.replicate (N * 64) 0)).toArray 5 (0, 0))) := g3
  clear hb3 hb3' j0 j1 hB2 es g3
  obtain ⟨⟨c0, c1⟩, _, _⟩ := cells2g j3
  have lt0 : w.heap.size < w3.heap.size := by omega
  go_wp2_with fail
  refine (hE _).mono ?_
  rintro e w4 ⟨rfl, hb4⟩
  have hb4' : Below w3.heap.size w3 w4 := ((Below.refl _ _).alloc (Nat.le_refl _) _).trans (hb4.mono (by simp))
  have d4 := (hb4.block w3.heap.size (by simp)).trans (heap_alloc_new w3 _)
  have p4 := (hb4'.block w2.heap.size (by omega)).trans p3
  have r4 := (hb4'.block (w.heap.size + 1) (by omega)).trans r3
  have HG4 : Hid (w4.heap[w2.heap.size + 1 + 1]? = some (.cells (u8s (List.replicate (N * 64) 0)).toArray 5 (0, 0))) := (hb4'.block _ s3).trans HG.out
  have hB4 := hB3.trans (hb4'.mono hB3.size)
  have s4 := (Array.getElem?_eq_some_iff.1 d4).1
  clear hb4 hb4' p3 r3 hB3 HG c0 c1 j3 hE
  generalize hXe : (u8s H).toArray = X at *
  have HXe : Hid ((u8s H).toArray = X) := hXe
  clear hXe
  go_wp2_with (refine wpList_store_row rfl 76 _ _ rfl w4.heap.size X rfl rfl 76 _ (heap_alloc_new w4 _) (by rw [hX]; exact info76s) (by rw [hX]; rfl) h1X ?_)
  obtain ⟨W5, hW5⟩ : ∃ W5, W5 = World.setRow (w4.alloc (.cells z64.toArray 76)) w4.heap.size X := ⟨_, rfl⟩
  obtain ⟨x5, hb5, s5⟩ := after_row w4 z64.toArray X 76
  rw [← hW5] at x5 hb5 s5
  rw [z64_lit] at hW5
  rw [← hW5]
  have d5 := (hb5.block _ s4).trans d4
  have p5 := (hb5.block w2.heap.size (by omega)).trans p4
  have r5 := (hb5.block (w.heap.size + 1) (by omega)).trans r4
  have HG5 : Hid (W5.heap[w2.heap.size + 1 + 1]? = some (.cells (u8s (List.replicate (N * 64) 0)).toArray 5 (0, 0))) := (hb5.block _ (by omega)).trans HG4.out
  have hB5 := hB4.trans (hb5.mono hB4.size)
  clear hW5 hb5 HG4 d4 p4 r4 hB4
  obtain ⟨⟨c0, c1⟩, _, _⟩ := cells2g d5
  obtain ⟨⟨e0, e1, e2, e3, e4⟩, _, _, _, _, _⟩ := cells5 p5
  obtain ⟨M, hM⟩ : ∃ M, (1 + T) * 64 = M := ⟨_, rfl⟩
  have HM : Hid ((1 + T) * 64 = M) := hM
  have hw : IntKind.i64.wrap ((1 + (T : Int)) * 64) = (M : Int) := by rw [IntKind.wrap_i64]; omega
  have m1 : (M : Int) ≤ (N : Int) * 64 := by omega
  have m2 : ¬ N * 64 = M := by omega
  have m3 : M + 64 ≤ N * 64 := by omega
  have m4 : (0 : Int) ≤ (M : Int) := by omega
  clear hM
  go_region_law (first
    | (go_simp; go_at_call 64; refine (regionStart_any _ _ _ _ _ W5.drew (by omega) (by omega)).mono ?_; rintro e w6 ⟨rfl, hb6⟩; have d6 := (hb6.block _ (show w3.heap.size < W5.heap.size by omega)).trans d5; have x6 := (hb6.block _ (show w4.heap.size < W5.heap.size by omega)).trans x5; have r6 := (hb6.block _ (show w.heap.size + 1 < W5.heap.size by omega)).trans r5; have HG6 : Hid (w6.heap[w2.heap.size + 1 + 1]? = some (.cells (u8s (List.replicate (N * 64) 0)).toArray 5 (0, 0))) := (hb6.block _ (show w2.heap.size + 1 + 1 < W5.heap.size by omega)).trans HG5.out; have hB6 : Below w.heap.size w w6 := hB5.drew.trans (hb6.mono hB5.size); obtain ⟨⟨c06, c16⟩, _, _⟩ := cells2g d6)
    | (refine step_copy_kept rfl (.tmp 26) (.tmp 27) 24 24 rfl 5 Try.underlying24 info5s (N * 64 - M) (N * 64 - M) 64 64 (w2.heap.size + 1 + 1) M ⟨w4.heap.size, 0, none⟩ rfl rfl (u8s (List.replicate (N * 64) 0)) 5 HG6.out (u8s H) (by rw [u8s_len, HL.out]; exact (Nat.min_eq_left (by omega)).symm) (src_cells (t := 76) (by rw [HXe.out]; exact x6)) (by rw [u8s_len, u8s_len, HL.out]; simp; omega) (many_u8 _) ?_; intro w7 hg7 hk7))
  all_goals
    have hg8 := hg7.out
    rw [← HM.out, fmt_splice T N H HL.out (by have := HM.out; omega)] at hg8
    have HG8 : Hid (w7.heap[w2.heap.size + 1 + 1]? = some (.cells (u8s (padL (List.replicate ((1 + T) * 64) 0 ++ H) (N * 64))).toArray 5 (0, 0))) := hg8
    have d7 := (hk7.block w3.heap.size (by have := (Array.getElem?_eq_some_iff.1 d6).1; omega) (by omega)).trans d6
    have r7 := (hk7.block (w.heap.size + 1) (by have := (Array.getElem?_eq_some_iff.1 r6).1; omega) (by omega)).trans r6
    have hB7 : Below w.heap.size w w7 := hB6.trans (hk7.below hB6.size (fun g hg => by omega))
    have s7 := (Array.getElem?_eq_some_iff.1 hg8).1
    obtain ⟨⟨q0, q1⟩, _, _⟩ := cells2g d7
    obtain ⟨⟨x0, x1⟩, f0, f1⟩ := cells2g r7
    have k8 := fun v0 v1 => (Kept.setCell w7 ⟨w.heap.size + 1, 0, none⟩ v0 (fun g => g = w.heap.size + 1) rfl).trans (Kept.setCell _ ⟨w.heap.size + 1, 1, none⟩ v1 (fun g => g = w.heap.size + 1) rfl)
    have hB8 := fun v0 v1 => (hB7.setCell (p := ⟨w.heap.size + 1, 0, none⟩) (Nat.le_succ _) v0).setCell (p := ⟨w.heap.size + 1, 1, none⟩) (Nat.le_succ _) v1
    have hl9 : (padL (List.replicate ((1 + T) * 64) 0 ++ H) (N * 64)).length = N * 64 := padL_len _ _ (by rw [List.length_append, List.length_replicate, HL.out]; omega)
    have row9 := fun v0 v1 => row_of_block (G := fun g => w.heap.size ≤ g ∧ g < ((w7.setCell ⟨w.heap.size + 1, 0, none⟩ v0).setCell ⟨w.heap.size + 1, 1, none⟩ v1).heap.size) (((k8 v0 v1).block (w2.heap.size + 1 + 1) s7 (by omega)).trans HG8.out) ⟨by omega, by simp [World.setCell]; omega⟩
    rw [hl9] at row9
    have HR : Hid (∀ v0 v1, Row .u8 (fun g => w.heap.size ≤ g ∧ g < ((w7.setCell ⟨w.heap.size + 1, 0, none⟩ v0).setCell ⟨w.heap.size + 1, 1, none⟩ v1).heap.size) ((w7.setCell ⟨w.heap.size + 1, 0, none⟩ v0).setCell ⟨w.heap.size + 1, 1, none⟩ v1) (some ⟨w2.heap.size + 1 + 1, 0, none⟩) (N * 64) (padL (List.replicate ((1 + T) * 64) 0 ++ H) (N * 64))) := row9
    clear hg7 hg8 hk7 k8 row9 hl9 HG8 hw m1 m2 m3 m4
    go_wp2
    refine bodyPost_ret (v := .agg #[.slice (some ⟨w2.heap.size + 1 + 1, 0, none⟩) (N * 64) (N * 64), .slice none 0 0]) (by simp [results, Try.results27, go_sem, x0, x1]) rfl ?_
    exact ⟨_, _, rfl, HR.out _ _, hB8 _ _⟩
end Go.Proofs.Ytkkammbfomiofac
