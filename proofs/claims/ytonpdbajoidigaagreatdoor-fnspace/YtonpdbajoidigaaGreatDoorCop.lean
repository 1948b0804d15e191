/-
  openDisk.
-/
import Derived.Test.YtonpdbajoidigaaGreatDoorGd
namespace Go.Proofs.YtonpdbajoidigaaGreatDoor
open Go.RowKit Go.Shelf
set_option linter.unusedSimpArgs false
set_option linter.unusedVariables false

attribute [local go_sem] Oper.semAt_some

theorem heap_alloc_oldC (w : World) (o : Obj) (i : Nat) (h : i < w.heap.size) : (w.alloc o).heap[i]? = w.heap[i]? := ((Below.refl w.heap.size w).alloc (Nat.le_refl _) o).block i h

theorem Kept.putObj_b {G : Nat → Prop} (W : World) (l : Nat) (o o' : Obj) (hG : G l) (h : W.heap[l]? = some o) : Kept G W (W.putObj l o') :=
  (grown_kept (grownBy_putObj' W l o')).mono fun g hg => by injection hg with hg; subst hg; exact hG

theorem six_blocks {w W : World} {o1 o2 o3 o4 o5 o6 : Obj} (h : (((((w.alloc o1).alloc o2).alloc o3).alloc o4).alloc o5).alloc o6 = W) :
    W.heap[w.heap.size]? = some o1 ∧ W.heap[w.heap.size + 1]? = some o2 ∧ W.heap[w.heap.size + 1 + 1]? = some o3 ∧ W.heap[w.heap.size + 1 + 1 + 1]? = some o4 ∧ W.heap[w.heap.size + 1 + 1 + 1 + 1]? = some o5 ∧ W.heap[w.heap.size + 1 + 1 + 1 + 1 + 1]? = some o6 := by
  have s1 : (w.alloc o1).heap.size = w.heap.size + 1 := by simp
  have s2 : ((w.alloc o1).alloc o2).heap.size = w.heap.size + 1 + 1 := by simp
  have s3 : (((w.alloc o1).alloc o2).alloc o3).heap.size = w.heap.size + 1 + 1 + 1 := by simp
  have s4 : ((((w.alloc o1).alloc o2).alloc o3).alloc o4).heap.size = w.heap.size + 1 + 1 + 1 + 1 := by simp
  have s5 : (((((w.alloc o1).alloc o2).alloc o3).alloc o4).alloc o5).heap.size = w.heap.size + 1 + 1 + 1 + 1 + 1 := by simp
  subst h
  refine ⟨?_, ?_, ?_, ?_, ?_, ?_⟩
  · rw [heap_alloc_oldC _ _ _ (by rw [s5]; omega), heap_alloc_oldC _ _ _ (by rw [s4]; omega), heap_alloc_oldC _ _ _ (by rw [s3]; omega), heap_alloc_oldC _ _ _ (by rw [s2]; omega), heap_alloc_oldC _ _ _ (by rw [s1]; omega)]; exact heap_alloc_new w o1
  · rw [heap_alloc_oldC _ _ _ (by rw [s5]; omega), heap_alloc_oldC _ _ _ (by rw [s4]; omega), heap_alloc_oldC _ _ _ (by rw [s3]; omega), heap_alloc_oldC _ _ _ (by rw [s2]; omega), ← s1]; exact heap_alloc_new _ o2
  · rw [heap_alloc_oldC _ _ _ (by rw [s5]; omega), heap_alloc_oldC _ _ _ (by rw [s4]; omega), heap_alloc_oldC _ _ _ (by rw [s3]; omega), ← s2]; exact heap_alloc_new _ o3
  · rw [heap_alloc_oldC _ _ _ (by rw [s5]; omega), heap_alloc_oldC _ _ _ (by rw [s4]; omega), ← s3]; exact heap_alloc_new _ o4
  · rw [heap_alloc_oldC _ _ _ (by rw [s5]; omega), ← s4]; exact heap_alloc_new _ o5
  · rw [← s5]; exact heap_alloc_new _ o6
theorem CD.obj {B : Nat} {w w' : World} {C nb : Nat} {xs : List Int} {ws : List (Int × List Int)} {dv wv : Value} {M : Nat} {D : DataW Unit} (h : CD B w C nb xs ws dv wv M D) (hk : Kept (fun g => g = C ∨ g = M ∨ wv.ownBlock = some g) w w') {g : Nat} {o : Obj} (hg : w.heap[g]? = some o) (h1 : g ≠ C) (h2 : g ≠ M) (ho : ∀ cur, o ≠ .cells cur 93 (0, 0)) : w'.heap[g]? = some o :=
  (hk.block g (Array.getElem?_eq_some_iff.1 hg).1 (fun e => e.elim h1 (fun e => e.elim h2 (tag_ne h.wr hg ho)))).trans hg
theorem open_kept {B : Nat} {w V w5 : World} {C nb : Nat} {xs : List Int} {ws : List (Int × List Int)} {dv wv : Value} {M : Nat} {D : DataW Unit} (h : CD B V.drew C nb xs ws dv wv M D) (hk : Kept (fun g => g = C ∨ g = M ∨ wv.ownBlock = some g) V.drew w5)
    {gv N3 Dd gd od : Nat} {x y z : Value} {c0 : Array Value} {bs : List Value} (hv : V.heap[gv]? = some (.cells #[x, y] 96 (0, 0))) (h0 : V.heap[B]? = some (.cells c0 33 (0, 0))) (h3 : V.heap[N3]? = some (.cells #[z] 44 (0, 0))) (hd : V.heap[Dd]? = some (.deferred (some []))) (hB : Below B w V) (hr : V.rangeAt gd od bs)
    (hne : gv ≠ C ∧ gv ≠ M ∧ B ≠ C ∧ B ≠ M ∧ N3 ≠ C ∧ N3 ≠ M) (hDd : Dd ≠ C ∧ Dd ≠ M) (hgd : gd < B) (hBs : B ≤ V.heap.size) :
    w5.heap[B]? = some (.cells c0 33 (0, 0)) ∧ w5.heap[N3]? = some (.cells #[z] 44 (0, 0)) ∧ w5.heap[Dd]? = some (.deferred (some [])) ∧ Below B w w5 ∧ (w5.cell? ⟨N3, 0, none⟩ = some z ∧ w5.cell? ⟨gv, 0, none⟩ = some x ∧ w5.cell? ⟨gv, 1, none⟩ = some y ∧ w5.rangeAt gd od bs) := by
  have k3 := h.obj hk h3 hne.2.2.2.2.1 hne.2.2.2.2.2 (fun cur => cells_ne (by decide))
  have kv := h.obj hk hv hne.1 hne.2.1 (fun cur => cells_ne (by decide))
  have hb : Below B V.drew w5 := hk.below hBs (fun g hg => by
    rcases hg with rfl | rfl | hg
    · exact h.hC
    · exact h.hM
    · exact (h.wr.lt g hg).1)
  refine ⟨h.obj hk h0 hne.2.2.1 hne.2.2.2.1 (fun cur => cells_ne (by decide)), k3, h.obj hk hd hDd.1 hDd.2 (fun cur => by simp), hB.drew.trans hb, ?_, (two_cells kv).1, (two_cells kv).2.1, range_block hr (hb.block gd hgd)⟩
  simpa using cell_of_row w5 _ 0 _ _ _ k3
theorem CD.putD {B : Nat} {w : World} {C nb : Nat} {xs : List Int} {ws : List (Int × List Int)} {dv wv : Value} {M : Nat} {D : DataW Unit} (h : CD B w C nb xs ws dv wv M D) {Dd : Nat} {l : Option (List Deferred)} (hd : w.heap[Dd]? = some (.deferred l)) (o' : Obj) : CD B (w.putObj Dd o') C nb xs ws dv wv M D := by
  refine h.kept (Kept.putObj_b (G := fun g => g = Dd) w Dd _ o' rfl hd) (fun g hg e => ?_)
  subst e
  rcases hg with rfl | rfl | hg | hg
  · rw [h.cell] at hd; cases hd
  · obtain ⟨es, cl, h1, _⟩ := h.map; rw [h1] at hd; cases hd
  · exact tag_ne h.dur hd (fun cur => by simp) hg
  · exact tag_ne h.wr hd (fun cur => by simp) hg
theorem arr_at (W : World) (g off c : Nat) : (Instr.arrayAt 74 (.slice (some ⟨g, off, none⟩) 64 c)).run Tryz.prog W = .ok (.pointer (some ⟨g, off, none⟩)) W := by simp [Instr.arrayAt, run_underlying Tryz.underlying74]

set_option maxRecDepth 100000 in
set_option maxHeartbeats 4000000 in
theorem openDisk_any (b off nb ca : Nat) (p : Option Addr) (m cp : Nat) (xs : List Int) (ws : List WV) (w : World) (ha : IRow .u8 w (some ⟨b, off, none⟩) (nb * 64) xs) (hca : nb * 64 ≤ ca) (hp : PRead w p m ws) (hv : ValidV (nb * 64) (wVal ws)) :
    Calls Tryz.prog 18 #[.agg #[.slice (some ⟨b, off, none⟩) (nb * 64) ca, .slice p m cp]] w fun e w' => ∃ C dv wa wc M D, e = .returned (.pointer (some ⟨C, 0, none⟩)) ∧ CD w.heap.size w' C nb xs (wVal ws) dv (.slice wa (wVal ws).length wc) M D ∧ Below w.heap.size w w' := by
  obtain ⟨i0, hi, hz0, hz1, hz2⟩ := info_parts info74z
  have hnb : 1 ≤ nb ∧ nb ≤ 1200 := by have h1 := hv.2.1; have h2 := hv.2.2.1; rw [Nat.mul_div_cancel _ (by decide)] at h1 h2; exact ⟨h1, h2⟩
  obtain ⟨hlx, ha⟩ := ha
  have hcell : ∀ i, i < nb * 64 → w.cell? ⟨b, off + i, none⟩ = some (.int .u8 (xs[i]?.getD 0)) := by
    rcases ha with h0 | ⟨g, off', e, hc⟩
    · omega
    · injection e with e; injection e with e1 e2; subst e1; subst e2; exact hc
  have hbN : b < w.heap.size := World.block_lt_of_cell? w _ (hcell 0 (by omega))
  have hrng : ∀ x : Fin nb, w.rangeAt b (off + 64 * x.1) (u8s (chk xs x.1)) := fun x j v hv => by
    have hx := x.2
    have hj : j < 64 := by have := (List.getElem?_eq_some_iff.1 hv).1; rw [u8s_len, chk_len hlx hx] at this; exact this
    rw [show off + 64 * x.1 + j = off + (64 * x.1 + j) by omega, hcell _ (by omega), ← hv]
    simp [u8s, chk, List.getElem?_take, hj, List.getElem?_drop, List.getElem?_eq_getElem (show 64 * x.1 + j < xs.length by omega)]
  have HRNG : Hid (∀ x : Fin nb, w.rangeAt b (off + 64 * x.1) (u8s (chk xs x.1))) := hrng
  have HLX : Hid (xs.length = nb * 64) := hlx
  have hbs := fun V (x : Fin nb) => build_one (P := Tryz.prog) V 87 74 i0 _ (u8s (chk xs x.1)) Tryz.underlying87 hi hz0 (by rw [hz1, u8s_len, chk_len hlx x.2]) (by rw [u8s_len, chk_len hlx x.2]; omega) (by rw [u8s_len, chk_len hlx x.2]; omega)
  have HBS := Hid.out hbs
  have HP : Hid (PRead w p m ws) := hp
  have HV : Hid (ValidV (nb * 64) (wVal ws)) := hv
  have hmm : ∀ W, (Instr.makeMap 89 none).run Tryz.prog W = .ok (.map (some W.heap.size)) (W.alloc (.map #[] 0)) := fun W => run_makeMap _ W
  have hmf : ∀ (fn : Fn) (first cap : Array Value) (w : World), (Instr.makeFunc fn first cap).run Tryz.prog w = .ok (.func fn first cap) w := fun _ _ _ _ => rfl
  clear hrng hlx ha hcell hp hv
  refine (callsIn_wide (n := 3)).1 (callsIn_of_wp_marks Tryz.func18 rfl trivial ?_ rfl)
  simp only [Tryz.ntmps18, List.size_toArray, List.length_cons, List.length_nil, Nat.reduceAdd, Nat.reduceSub, Array.replicate_succ, Array.replicate_zero, List.push_toArray, List.append_toArray, List.nil_append, List.cons_append]
  refine (wpIn_wide (n := 3)).2 ?_
  clear hbs
  go_wp2_with (go_at_call 36; refine ((callsIn_wide (n := 3)).1 (chunk_in Fence.wide 3 trivial rfl _ _ _ _)).mono ?_; rintro e w' ⟨rfl, rfl⟩)
  obtain ⟨W0, hW0⟩ : ∃ W0, ((((((w.alloc (.cells #[.slice (some ⟨b, off, none⟩) (nb * 64) ca, .slice p m cp] 33)).alloc (.map #[] 0)).alloc (.cells #[.slice none 0 0, .slice none 0 0, .map (some (w.heap.size + 1))] 91)).alloc (.cells #[.pointer (some ⟨w.heap.size + 1 + 1, 0, none⟩)] 44)).alloc (.cells #[.slice (some ⟨b, off, none⟩) (nb * 64) ca] 22)).alloc (.cells #[.int .i64 64] 3)) = W0 := ⟨_, rfl⟩
  have sz0 : W0.heap.size = w.heap.size + 1 + 1 + 1 + 1 + 1 + 1 := by rw [← hW0]; simp
  have OI0 : OIs w xs nb b off ca p m cp none 0 [] W0 := by
    have hB : Below w.heap.size w W0 := by
      rw [← hW0]
      exact ((((((Below.refl _ w).alloc (Nat.le_refl _) _).alloc (by simp) _).alloc (by simp; omega) _).alloc (by simp; omega) _).alloc (by simp; omega) _).alloc (by simp; omega) _
    obtain ⟨q1, q2, q3, q4, q5, q6⟩ := six_blocks hW0
    exact ⟨q3, ⟨by simp [u8s], .inl ⟨rfl, rfl⟩⟩, q2, q1, q4, q5, q6, hB⟩
  rw [hW0]
  clear hW0 hmm hmf
  have hS := chunk_stops 2 (by omega) (w.heap.size + 1 + 1 + 1 + 1) (w.heap.size + 1 + 1 + 1 + 1 + 1) (GO w.heap.size) b off nb ca (by omega) W0 (fun h => h.2.1 rfl) (fun h => h.2.2 rfl) (by simpa using cell_of_row W0 _ 0 _ _ _ OI0.o4) (by simpa using cell_of_row W0 _ 0 _ _ _ OI0.o5) hca
  refine wpIn_wide.1 (wpIn_rangeFunc_ownG (F := Fence.wide) (n := 3) rfl (by omega) (gf := 60) (lb := #[.pointer (some ⟨w.heap.size + 1 + 1 + 1 + 1, 0, none⟩), .pointer (some ⟨w.heap.size + 1 + 1 + 1 + 1 + 1, 0, none⟩)]) rfl trivial (enters_of Tryz.func60 (by kernel_rfl) rfl)
    hS (fun h k => h.trans k) (fun W l o o' hl h _ _ => Kept.putObj_b W l o o' ⟨by omega, by omega, by omega⟩ h) (Below.refl _ _) (fun _ => rfl)
    (fun pre W => ∃ da dc, OIs w xs nb b off ca p m cp da dc pre W) (fun _ _ _ => False) (by rw [sz0]; exact OIs.own) (fun _ _ _ _ _ h => h.elim) ⟨none, 0, OI0⟩
    (fun x => { tmps := #[.agg #[.slice (some ⟨b, off, none⟩) (nb * 64) ca, .slice p m cp], .pointer (some ⟨w.heap.size, 0, none⟩), .pointer none, .pointer (some ⟨w.heap.size + 1 + 1 + 1, 0, none⟩), .slice (some ⟨b, off + 64 * x.1, none⟩) 64 64, undef, undef, .map (some (w.heap.size + 1)), .agg #[.slice none 0 0, .slice none 0 0, .map (some (w.heap.size + 1))], .pointer (some ⟨w.heap.size + 1 + 1, 0, none⟩), .pointer (some ⟨w.heap.size, 0, none⟩), .slice (some ⟨b, off, none⟩) (nb * 64) ca, .func (.func 60) #[] #[.pointer (some ⟨w.heap.size + 1 + 1 + 1 + 1, 0, none⟩), .pointer (some ⟨w.heap.size + 1 + 1 + 1 + 1 + 1, 0, none⟩)], .slice (some ⟨b, off + 64 * x.1, none⟩) 64 64, undef, undef, undef, undef, undef, undef, undef, undef, undef, undef, undef, undef, undef, undef, undef, undef, undef, undef, undef, undef, undef, undef, undef, undef, undef, undef, undef, undef, undef], defers := [] }) ?assign ?body ?done ?stop)
  case assign =>
    intro l x W K hK
    gi_wp2
    exact hK
  case stop => rintro D c pre W hD hpre h; exact h.elim
  case body =>
    rintro l pre x W ⟨da, dc, hI⟩ hlt
    have HI : Hid (OIs w xs nb b off ca p m cp da dc pre W) := hI
    have hcl := chk_len HLX.out x.2
    obtain ⟨c0, _, _, cf⟩ := cells3 hI.c
    have cb : W.cell? ⟨w.heap.size + 1 + 1 + 1, 0, none⟩ = some (.pointer (some ⟨w.heap.size + 1 + 1, 0, none⟩)) := by simpa using cell_of_row W _ 0 _ _ _ hI.o3
    have rng : W.rangeAt b (off + 64 * x.1) (u8s (chk xs x.1)) := range_block (HRNG.out x) (hI.below.block b hbN)
    have nb3 : Hid ((Value.slice da pre.length dc).ownBlock ≠ some (w.heap.size + 1 + 1 + 1)) := tag_ne hI.row hI.o3 (fun cur => cells_ne (by decide))
    have nbb : Hid ((Value.slice da pre.length dc).ownBlock ≠ some b) := fun e => by have := (hI.row.lt b e).1; omega
    have s3 : w.heap.size + 1 + 1 + 1 < W.heap.size := (Array.getElem?_eq_some_iff.1 hI.o3).1
    have sb : b < W.heap.size := Nat.lt_of_lt_of_le hbN hI.below.size
    have sC : w.heap.size + 1 + 1 < W.heap.size := by omega
    have hbx := fun V => HBS V x
    have rng1 : (W.drew.alloc (Obj.cells (u8s (chk xs x.1)).toArray 74)).cell? ⟨w.heap.size + 1 + 1 + 1, 0, none⟩ = some (.pointer (some ⟨w.heap.size + 1 + 1, 0, none⟩)) ∧ (W.drew.alloc (Obj.cells (u8s (chk xs x.1)).toArray 74)).rangeAt b (off + 64 * x.1) (u8s (chk xs x.1)) :=
      ⟨(World.cell?_of_block (a := ⟨w.heap.size + 1 + 1 + 1, 0, none⟩) (heap_alloc_oldC W _ _ s3)).trans cb, range_block rng (heap_alloc_oldC W _ _ sb)⟩
    clear hI HBS hS OI0
    gi_wp2
    refine wpIn_region_calm (fun V => V.cell? ⟨w.heap.size + 1 + 1 + 1, 0, none⟩ = some (.pointer (some ⟨w.heap.size + 1 + 1, 0, none⟩)) ∧ V.rangeAt b (off + 64 * x.1) (u8s (chk xs x.1))) (by kernel_rfl) (by kernel_rfl) (fun a w h => h) ?_
    change wpAnyH _ _ _ _ _ _ _ _ W.drew
    have hS : W.drew.cell? ⟨w.heap.size + 1 + 1 + 1, 0, none⟩ = some (.pointer (some ⟨w.heap.size + 1 + 1, 0, none⟩)) ∧ W.drew.rangeAt b (off + 64 * x.1) (u8s (chk xs x.1)) := ⟨cb, rng⟩
    refine wpAnyH_take (i := 0) (v := .pointer (some ⟨w.heap.size + 1 + 1, 0, none⟩)) rfl (by kernel_rfl) (by kernel_rfl) (by kernel_rfl) (fun _ _ _ h => h) (Or.inl ⟨rfl, fun V hV => by obtain ⟨h1, h2⟩ := hV; clear h2; go_simp⟩) hS ?_
    refine wpAnyH_take (i := 1) (v := .pointer (some ⟨w.heap.size + 1 + 1, 0, none⟩)) rfl (by kernel_rfl) (by kernel_rfl) (by kernel_rfl) (fun _ _ _ h => h) (Or.inl ⟨rfl, fun V hV => by obtain ⟨h1, h2⟩ := hV; clear h2; go_simp⟩) hS ?_
    refine wpAnyH_take (i := 2) (v := .pointer (some ⟨w.heap.size + 1 + 1, 0, none⟩)) rfl (by kernel_rfl) (by kernel_rfl) (by kernel_rfl) (fun _ _ _ h => h) (Or.inl ⟨rfl, fun V hV => by go_simp⟩) hS ?_
    refine wpAnyH_take (i := 3) (v := .pointer (some ⟨w.heap.size + 1 + 1, 0, none⟩)) rfl (by kernel_rfl) (by kernel_rfl) (by kernel_rfl) (fun _ _ _ h => h) (Or.inl ⟨rfl, fun V hV => by go_simp⟩) hS ?_
    refine wpAnyH_take (i := 5) (v := .slice (some ⟨b, off + 64 * x.1, none⟩) 64 64) rfl (by kernel_rfl) (by kernel_rfl) (by kernel_rfl) (fun _ _ _ h => h) (Or.inl ⟨rfl, fun V hV => by go_simp⟩) hS ?_
    refine wpAnyH_take (i := 6) (v := .pointer (some ⟨b, off + 64 * x.1, none⟩)) rfl (by kernel_rfl) (by kernel_rfl) (by kernel_rfl) (fun _ _ _ h => h) (Or.inl ⟨rfl, fun V hV => by have harr := arr_at V b (off + 64 * x.1) 64; go_simp⟩) hS ?_
    refine wpAnyH_take (i := 7) (v := .agg (u8s (chk xs x.1)).toArray) rfl (by kernel_rfl) (by kernel_rfl) (by kernel_rfl) (fun _ _ _ h => h) (yieldsIf_load_mid rfl 74 (.tmp 20) rfl b (off + 64 * x.1) rfl (u8s (chk xs x.1)) _ (fun V hV => hV.2) Tryz.underlying74 rfl (by rw [u8s_len, hcl]; exact infoBB)) hS ?_
    refine wpAnyH_ready (rs := [4, 8]) (by kernel_rfl) (by simp) (AllReadyH.cons rfl (fun K hK => ?_) (AllReadyH.cons rfl (fun K hK => ?_) AllReadyH.nil))
    · go_simp
      refine hK.out _ _ hS (fun hS => ?_)
      clear hK K
      refine wpAnyH_ready (rs := [8]) (by kernel_rfl) (by simp) (AllReadyH.cons rfl (fun K hK => ?_) AllReadyH.nil)
      refine if_wanted rfl (wp_buildS 87 1 _ rfl (by simp only [List.map_toArray, List.map_cons, List.map_nil]; exact hbx _) ?_)
      refine hK.out _ _ rng1 (fun hS => ?_)
      clear hK K
      refine wpAnyH_ready (rs := [9]) (by kernel_rfl) (by simp) (AllReadyH.cons rfl (fun K hK => ?_) AllReadyH.nil)
      refine if_wanted rfl (wp_append_own _ (.tmp 18) (.tmp 22) 87 rfl w.heap.size 74 i0 _ 64 64 Tryz.underlying87 hi hz0 hz1 hz2 rfl (by decide) (.slice da pre.length dc) pre.length (u8s (pre.flatMap fun x : Fin nb => chk xs x.1)) rfl (HI.out.row.alloc _) ⟨W.heap.size, 0, none⟩ 1 1 (u8s (chk xs x.1)) rfl (by rw [u8s_len, hcl]) (cells_new W.drew (u8s (chk xs x.1)) _) (many_u8 _) (by unfold maxLen; omega) (by omega) (by have := HI.out.below.size; simp; omega) (fun v' w2 hown2 hg2 _ => ?_))
      obtain ⟨g', cap', rfl⟩ : ∃ g' cap', v' = .slice (some ⟨g', 0, none⟩) (pre.length + 1) cap' := by
        rcases hown2.2 with ⟨_, h0⟩ | ⟨g', cap', cur, e, _⟩
        · omega
        · exact ⟨g', cap', e⟩
      obtain ⟨g2, hOI, hKF, hKt⟩ := HI.out.step x hg2 hown2
      obtain ⟨m0, _, _, mf⟩ := cells3 g2
      have hS2 : w2.cell? ⟨w.heap.size + 1 + 1 + 1, 0, none⟩ = some (.pointer (some ⟨w.heap.size + 1 + 1, 0, none⟩)) ∧ w2.rangeAt b (off + 64 * x.1) (u8s (chk xs x.1)) :=
        ⟨(World.cell?_of_block (a := ⟨w.heap.size + 1 + 1 + 1, 0, none⟩) ((hg2.block _ (by simp; omega) (fun e => nb3.out e.symm)).trans (heap_alloc_oldC W _ _ s3))).trans cb, range_block rng ((hg2.block _ (by simp; omega) (fun e => nbb.out e.symm)).trans (heap_alloc_oldC W _ _ sb))⟩
      have hS3 : (w2.setCell ⟨w.heap.size + 1 + 1, 0, none⟩ (.slice (some ⟨g', 0, none⟩) (pre.length + 1) cap')).cell? ⟨w.heap.size + 1 + 1 + 1, 0, none⟩ = some (.pointer (some ⟨w.heap.size + 1 + 1, 0, none⟩)) ∧ (w2.setCell ⟨w.heap.size + 1 + 1, 0, none⟩ (.slice (some ⟨g', 0, none⟩) (pre.length + 1) cap')).rangeAt b (off + 64 * x.1) (u8s (chk xs x.1)) :=
        ⟨(World.cell?_of_block (a := ⟨w.heap.size + 1 + 1 + 1, 0, none⟩) (Below.heap_setCell _ _ _ _ (by show w.heap.size + 1 + 1 + 1 ≠ w.heap.size + 1 + 1; omega))).trans hS2.1, range_block hS2.2 (Below.heap_setCell _ _ _ _ (by show b ≠ w.heap.size + 1 + 1; omega))⟩
      have HOI := Hid.out hOI
      refine hK.out _ _ hS2 (fun hS => ?_)
      clear hK K hown2 hg2 g2
      refine wpAnyH_take (i := 10) (v := .pointer (some ⟨w.heap.size + 1 + 1, 0, none⟩)) rfl (by kernel_rfl) (by kernel_rfl) (by kernel_rfl) (fun _ _ _ h => h) (Or.inl ⟨rfl, fun V hV => by go_simp⟩) hS ?_
      refine wpAnyH_take (i := 11) (v := .pointer (some ⟨w.heap.size + 1 + 1, 0, none⟩)) rfl (by kernel_rfl) (by kernel_rfl) (by kernel_rfl) (fun _ _ _ h => h) (Or.inl ⟨rfl, fun V hV => by go_simp⟩) hS ?_
      refine wpAnyH_ready (rs := [12]) (by kernel_rfl) (by simp) (AllReadyH.cons rfl (fun K hK => ?_) AllReadyH.nil)
      go_simp
      refine hK.out _ _ hS3 (fun _ => ?_)
      refine wpAnyH_done (by kernel_rfl) ?_ _
      exact ⟨by rw [sz0]; exact hKF, hKt, _, _, HOI⟩
    · refine if_wanted rfl (wp_buildS 87 1 _ rfl (by simp only [List.map_toArray, List.map_cons, List.map_nil]; exact hbx _) ?_)
      refine hK.out _ _ rng1 (fun hS => ?_)
      clear hK K
      refine wpAnyH_ready (rs := [4]) (by kernel_rfl) (by simp) (AllReadyH.cons rfl (fun K hK => ?_) AllReadyH.nil)
      go_simp
      refine hK.out _ _ rng1 (fun hS => ?_)
      clear hK K
      refine wpAnyH_ready (rs := [9]) (by kernel_rfl) (by simp) (AllReadyH.cons rfl (fun K hK => ?_) AllReadyH.nil)
      refine if_wanted rfl (wp_append_own _ (.tmp 18) (.tmp 22) 87 rfl w.heap.size 74 i0 _ 64 64 Tryz.underlying87 hi hz0 hz1 hz2 rfl (by decide) (.slice da pre.length dc) pre.length (u8s (pre.flatMap fun x : Fin nb => chk xs x.1)) rfl (HI.out.row.alloc _) ⟨W.heap.size, 0, none⟩ 1 1 (u8s (chk xs x.1)) rfl (by rw [u8s_len, hcl]) (cells_new W.drew (u8s (chk xs x.1)) _) (many_u8 _) (by unfold maxLen; omega) (by omega) (by have := HI.out.below.size; simp; omega) (fun v' w2 hown2 hg2 _ => ?_))
      obtain ⟨g', cap', rfl⟩ : ∃ g' cap', v' = .slice (some ⟨g', 0, none⟩) (pre.length + 1) cap' := by
        rcases hown2.2 with ⟨_, h0⟩ | ⟨g', cap', cur, e, _⟩
        · omega
        · exact ⟨g', cap', e⟩
      obtain ⟨g2, hOI, hKF, hKt⟩ := HI.out.step x hg2 hown2
      obtain ⟨m0, _, _, mf⟩ := cells3 g2
      have hS2 : w2.cell? ⟨w.heap.size + 1 + 1 + 1, 0, none⟩ = some (.pointer (some ⟨w.heap.size + 1 + 1, 0, none⟩)) ∧ w2.rangeAt b (off + 64 * x.1) (u8s (chk xs x.1)) :=
        ⟨(World.cell?_of_block (a := ⟨w.heap.size + 1 + 1 + 1, 0, none⟩) ((hg2.block _ (by simp; omega) (fun e => nb3.out e.symm)).trans (heap_alloc_oldC W _ _ s3))).trans cb, range_block rng ((hg2.block _ (by simp; omega) (fun e => nbb.out e.symm)).trans (heap_alloc_oldC W _ _ sb))⟩
      have hS3 : (w2.setCell ⟨w.heap.size + 1 + 1, 0, none⟩ (.slice (some ⟨g', 0, none⟩) (pre.length + 1) cap')).cell? ⟨w.heap.size + 1 + 1 + 1, 0, none⟩ = some (.pointer (some ⟨w.heap.size + 1 + 1, 0, none⟩)) ∧ (w2.setCell ⟨w.heap.size + 1 + 1, 0, none⟩ (.slice (some ⟨g', 0, none⟩) (pre.length + 1) cap')).rangeAt b (off + 64 * x.1) (u8s (chk xs x.1)) :=
        ⟨(World.cell?_of_block (a := ⟨w.heap.size + 1 + 1 + 1, 0, none⟩) (Below.heap_setCell _ _ _ _ (by show w.heap.size + 1 + 1 + 1 ≠ w.heap.size + 1 + 1; omega))).trans hS2.1, range_block hS2.2 (Below.heap_setCell _ _ _ _ (by show b ≠ w.heap.size + 1 + 1; omega))⟩
      have HOI := Hid.out hOI
      refine hK.out _ _ hS2 (fun hS => ?_)
      clear hK K hown2 hg2 g2
      refine wpAnyH_take (i := 10) (v := .pointer (some ⟨w.heap.size + 1 + 1, 0, none⟩)) rfl (by kernel_rfl) (by kernel_rfl) (by kernel_rfl) (fun _ _ _ h => h) (Or.inl ⟨rfl, fun V hV => by go_simp⟩) hS ?_
      refine wpAnyH_take (i := 11) (v := .pointer (some ⟨w.heap.size + 1 + 1, 0, none⟩)) rfl (by kernel_rfl) (by kernel_rfl) (by kernel_rfl) (fun _ _ _ h => h) (Or.inl ⟨rfl, fun V hV => by go_simp⟩) hS ?_
      refine wpAnyH_ready (rs := [12]) (by kernel_rfl) (by simp) (AllReadyH.cons rfl (fun K hK => ?_) AllReadyH.nil)
      go_simp
      refine hK.out _ _ hS3 (fun _ => ?_)
      refine wpAnyH_done (by kernel_rfl) ?_ _
      exact ⟨by rw [sz0]; exact hKF, hKt, _, _, HOI⟩
  case done =>
    rintro Dd ys W hD rfl ⟨da, dc, hI⟩ hK
    have hnl : (List.finRange nb).length = nb := by simp
    have hcd : CD w.heap.size W (w.heap.size + 1 + 1) nb xs [] (.slice da nb dc) (.slice none 0 0) (w.heap.size + 1) (.map []) := by
      have hc := hI.c
      have hr := hI.row
      rw [hnl] at hc
      rw [hnl, chk_all xs nb HLX.out] at hr
      exact ⟨hc, hr, ⟨rfl, .inl ⟨rfl, rfl⟩⟩, ⟨#[], 0, hI.map, ⟨by simp, MapKept.stamped_empty 0, by simp⟩, Nat.le_refl _, rfl⟩, Young.nil, HLX.out, fun x hx => by simp at hx, by omega, by omega⟩
    have o0 := hI.o0
    have o3 := hI.o3
    have hB := hI.below
    have sW : w.heap.size + 1 + 1 + 1 < W.heap.size := (Array.getElem?_eq_some_iff.1 o3).1
    clear hI OI0 hS HBS HRNG
    obtain ⟨p0, p1, _, _⟩ := two_cells o0
    have HCD : Hid (CD w.heap.size W (w.heap.size + 1 + 1) nb xs [] (.slice da nb dc) (.slice none 0 0) (w.heap.size + 1) (.map [])) := hcd
    have HO0 : Hid (W.heap[w.heap.size]? = some (.cells #[.slice (some ⟨b, off, none⟩) (nb * 64) ca, .slice p m cp] 33 (0, 0))) := o0
    have HO3 : Hid (W.heap[w.heap.size + 1 + 1 + 1]? = some (.cells #[.pointer (some ⟨w.heap.size + 1 + 1, 0, none⟩)] 44 (0, 0))) := o3
    have HDD : Hid (W.heap[Dd]? = some (.deferred (some []))) := hK
    have HB : Hid (Below w.heap.size w W) := hB
    have hm4 : m ≤ 400 := by have h1 := HV.out.2.2.2.1; rw [wVal_len, HP.out.1] at h1; exact h1
    clear hcd o0 o3 hK hB hi hz0 hz1 hz2
    go_wp2
    go_loopw [29] (fun i wr => ∃ (k : Nat) (wa : Option Addr) (wc : Nat) (Dm : DataW Unit), k ≤ m ∧ i = .int .i64 k ∧ Hid (CD w.heap.size wr (w.heap.size + 1 + 1) nb xs ((wVal ws).take k) (.slice da nb dc) (.slice wa ((wVal ws).take k).length wc) (w.heap.size + 1) Dm) ∧ Hid (wr.heap[w.heap.size]? = some (.cells #[.slice (some ⟨b, off, none⟩) (nb * 64) ca, .slice p m cp] 33 (0, 0))) ∧ Hid (wr.heap[w.heap.size + 1 + 1 + 1]? = some (.cells #[.pointer (some ⟨w.heap.size + 1 + 1, 0, none⟩)] 44 (0, 0))) ∧ Hid (wr.heap[Dd]? = some (.deferred (some []))) ∧ Hid (Below w.heap.size w wr)) (fun i _ => m - (intOf i).toNat)
    case atStart => exact ⟨0, none, 0, _, Nat.zero_le _, rfl, HCD, HO0, HO3, HDD, HB⟩
    case round =>
      obtain ⟨k, wa, wc, Dm, hk, rfl, hcd, ho0, ho3, hdd, hbl⟩ := hrel
      clear HCD HO0 HO3 HDD HB
      have hlk : ((wVal ws).take k).length = k := by rw [List.length_take, wVal_len, HP.out.1]; omega
      by_cases hlt : k < m
      · have hkl : k < ws.length := by rw [HP.out.1]; exact hlt
        have hok : OkW ((nb * 64 / 64 : Nat) : Int) (wBlk ws k, wBs ws k) := by
          have := HV.out.2.2.2.2 _ (List.getElem_mem (by rw [wVal_len]; exact hkl))
          rwa [wVal_at ws k hkl] at this
        obtain ⟨hq1, hq2, hq3⟩ := hok
        rw [Nat.mul_div_cancel _ (by decide)] at hq2
        simp only at hq1 hq2 hq3
        obtain ⟨_, hc, hd⟩ := HP.out
        rcases hc with h0 | ⟨g, offp, he, hc⟩
        · omega
        subst he
        obtain ⟨c1, c2⟩ := hc k hlt
        obtain ⟨hr, _⟩ := hd k hlt
        have hn64 : wN ws k = 64 := by rw [← hr.1]; exact hq3
        rw [hn64] at c2 hr
        obtain ⟨hr1, hr2⟩ := hr
        rcases hr2 with h0 | ⟨gd, od, hed, hcd'⟩
        · omega
        rw [hed] at c2
        have lg := World.block_lt_of_cell? w _ c1
        have lgd := World.block_lt_of_cell? w _ (hcd' 0 (by omega))
        have rngw : w.rangeAt gd od (u8s (wBs ws k)) := fun j v hv => by
          have hj : j < 64 := by have := (List.getElem?_eq_some_iff.1 hv).1; rw [u8s_len, hq3] at this; exact this
          rw [hcd' j hj, ← hv]
          simp [u8s, List.getElem?_eq_getElem (show j < (wBs ws k).length by omega)]
        rw [← hbl.out.cell (p := ⟨g, offp + k * 2, none⟩) lg] at c1
        rw [← hbl.out.cell (p := ⟨g, offp + k * 2 + 1, none⟩) lg] at c2
        have rng : wr.rangeAt gd od (u8s (wBs ws k)) := range_block rngw (hbl.out.block gd lgd)
        have swr := (Array.getElem?_eq_some_iff.1 ho3.out).1
        have lgr : g < wr.heap.size := Nat.lt_of_lt_of_le lg hbl.out.size
        have wfb : (Lit.int .i64 (wBlk ws k)).wf = true := by simp [Lit.wf, IntKind.min, IntKind.max, IntKind.signed, IntKind.bits]; omega
        have HQ : Hid (ValidV (nb * 64) (wVal ws)) := HV
        clear hc hd hcd' rngw hr1
        obtain ⟨V, hV⟩ : ∃ V, wr.alloc (Obj.cells #[.int .i64 (wBlk ws k), .slice (some ⟨gd, od, none⟩) 64 (wC ws k)] 96) = V := ⟨_, rfl⟩
        have bV : Below wr.heap.size wr V := by rw [← hV]; exact (Below.refl _ wr).alloc (Nat.le_refl _) _
        have vV : V.heap[wr.heap.size]? = some (.cells #[.int .i64 (wBlk ws k), .slice (some ⟨gd, od, none⟩) 64 (wC ws k)] 96 (0, 0)) := by rw [← hV]; exact heap_alloc_new wr _
        have cdV := hcd.out.below (bV.drew)
        have v0 : V.heap[w.heap.size]? = some (.cells #[.slice (some ⟨b, off, none⟩) (nb * 64) ca, .slice (some ⟨g, offp, none⟩) m cp] 33 (0, 0)) := (bV.block _ (by omega)).trans ho0.out
        have v3 : V.heap[w.heap.size + 1 + 1 + 1]? = some (.cells #[.pointer (some ⟨w.heap.size + 1 + 1, 0, none⟩)] 44 (0, 0)) := (bV.block _ swr).trans ho3.out
        have vD : V.heap[Dd]? = some (.deferred (some [])) := (bV.block _ (Array.getElem?_eq_some_iff.1 hdd.out).1).trans hdd.out
        have rV : V.rangeAt gd od (u8s (wBs ws k)) := range_block rng (bV.block gd (Nat.lt_of_lt_of_le lgd hbl.out.size))
        have BV : Below w.heap.size w V := hbl.out.trans (bV.mono hbl.out.size)
        have szV : wr.heap.size < V.heap.size := (Array.getElem?_eq_some_iff.1 vV).1
        have HVV : Hid (V.heap[wr.heap.size]? = some (.cells #[.int .i64 (wBlk ws k), .slice (some ⟨gd, od, none⟩) 64 (wC ws k)] 96 (0, 0)) ∧ V.heap[w.heap.size]? = some (.cells #[.slice (some ⟨b, off, none⟩) (nb * 64) ca, .slice (some ⟨g, offp, none⟩) m cp] 33 (0, 0)) ∧ V.heap[w.heap.size + 1 + 1 + 1]? = some (.cells #[.pointer (some ⟨w.heap.size + 1 + 1, 0, none⟩)] 44 (0, 0)) ∧ V.heap[Dd]? = some (.deferred (some [])) ∧ Below w.heap.size w V) := ⟨vV, v0, v3, vD, BV⟩
        have HCV : Hid (CD w.heap.size V.drew (w.heap.size + 1 + 1) nb xs ((wVal ws).take k) (.slice da nb dc) (.slice wa ((wVal ws).take k).length wc) (w.heap.size + 1) Dm) := cdV
        have hS0 : V.drew.cell? ⟨w.heap.size + 1 + 1 + 1, 0, none⟩ = some (.pointer (some ⟨w.heap.size + 1 + 1, 0, none⟩)) ∧ V.drew.cell? ⟨wr.heap.size, 0, none⟩ = some (.int .i64 (wBlk ws k)) ∧ V.drew.cell? ⟨wr.heap.size, 1, none⟩ = some (.slice (some ⟨gd, od, none⟩) 64 (wC ws k)) ∧ V.drew.rangeAt gd od (u8s (wBs ws k)) :=
          ⟨by simpa using cell_of_row V.drew _ 0 _ _ _ v3, (two_cells vV).1, (two_cells vV).2.1, rV⟩
        have hDne : Dd ≠ w.heap.size + 1 + 1 ∧ Dd ≠ w.heap.size + 1 := by
          constructor
          · intro e; have h1 := hcd.out.cell; rw [← e, hdd.out] at h1; cases h1
          · intro e; obtain ⟨es, cl, h1, _⟩ := hcd.out.map; rw [← e, hdd.out] at h1; cases h1
        have hwv := fun (w5 : World) (hkp : Kept (fun g => g = w.heap.size + 1 + 1 ∨ g = w.heap.size + 1 ∨ (Value.slice wa ((wVal ws).take k).length wc).ownBlock = some g) V.drew w5) =>
          open_kept HCV.out hkp HVV.out.1 HVV.out.2.1 HVV.out.2.2.1 HVV.out.2.2.2.1 HVV.out.2.2.2.2 rV (by omega) hDne lgd (by omega)
        have HWV := Hid.out hwv
        clear bV vV cdV v0 v3 vD rV BV hwv rng
        go_wp2
        try rw [hV]
        clear hV
        refine wp_region_noPanic ?_
        refine wp_region_held_drew (S := fun V' => V'.cell? ⟨w.heap.size + 1 + 1 + 1, 0, none⟩ = some (.pointer (some ⟨w.heap.size + 1 + 1, 0, none⟩)) ∧ V'.cell? ⟨wr.heap.size, 0, none⟩ = some (.int .i64 (wBlk ws k)) ∧ V'.cell? ⟨wr.heap.size, 1, none⟩ = some (.slice (some ⟨gd, od, none⟩) 64 (wC ws k)) ∧ V'.rangeAt gd od (u8s (wBs ws k))) (by kernel_rfl) hS0 (fun hS => ?_)
        refine wpAnyH_take (i := 0) (v := .pointer (some ⟨w.heap.size + 1 + 1, 0, none⟩)) rfl (by kernel_rfl) (by kernel_rfl) (by kernel_rfl) (fun _ _ _ h => h) (Or.inl ⟨rfl, fun V hV => by obtain ⟨h1, h2, h3, h4⟩ := hV; clear h4; go_simp⟩) hS ?_
        refine wpAnyH_take (i := 1) (v := .pointer (some ⟨wr.heap.size, 0, none⟩)) rfl (by kernel_rfl) (by kernel_rfl) (by kernel_rfl) (fun _ _ _ h => h) (Or.inl ⟨rfl, fun V hV => by go_simp⟩) hS ?_
        refine wpAnyH_take (i := 2) (v := .int .i64 (wBlk ws k)) rfl (by kernel_rfl) (by kernel_rfl) (by kernel_rfl) (fun _ _ _ h => h) (Or.inl ⟨rfl, fun V hV => by obtain ⟨h1, h2, h3, h4⟩ := hV; clear h4; go_simp⟩) hS ?_
        refine wpAnyH_take (i := 3) (v := .pointer (some ⟨wr.heap.size, 1, none⟩)) rfl (by kernel_rfl) (by kernel_rfl) (by kernel_rfl) (fun _ _ _ h => h) (Or.inl ⟨rfl, fun V hV => by go_simp⟩) hS ?_
        refine wpAnyH_take (i := 4) (v := .slice (some ⟨gd, od, none⟩) 64 (wC ws k)) rfl (by kernel_rfl) (by kernel_rfl) (by kernel_rfl) (fun _ _ _ h => h) (Or.inl ⟨rfl, fun V hV => by obtain ⟨h1, h2, h3, h4⟩ := hV; clear h4; go_simp⟩) hS ?_
        refine wpAnyH_take (i := 5) (v := .pointer (some ⟨gd, od, none⟩)) rfl (by kernel_rfl) (by kernel_rfl) (by kernel_rfl) (fun _ _ _ h => h) (Or.inl ⟨rfl, fun V hV => by have harr := arr_at V gd od (wC ws k); go_simp⟩) hS ?_
        refine wpAnyH_take (i := 6) (v := .agg (u8s (wBs ws k)).toArray) rfl (by kernel_rfl) (by kernel_rfl) (by kernel_rfl) (fun _ _ _ h => h) (yieldsIf_load_mid rfl 74 (.tmp 38) rfl gd od rfl (u8s (wBs ws k)) _ (fun V hV => hV.2.2.2) Tryz.underlying74 rfl (by rw [u8s_len, hq3]; exact infoBB)) hS ?_
        refine wpAnyH_ready (rs := [7]) (by kernel_rfl) (by simp) (AllReadyH.cons rfl (fun K hK => ?_) AllReadyH.nil)
        go_simp
        refine (cwrite_any w.heap.size (w.heap.size + 1 + 1) nb xs ((wVal ws).take k) (.slice da nb dc) wa wc (w.heap.size + 1) Dm (wBlk ws k) (wBs ws k) V.drew HCV.out hq3 wfb (by rw [hlk]; omega) (by show w.heap.size ≤ V.heap.size; omega)).mono ?_
        rintro e w5 ⟨⟨v, rfl⟩, wa', wc', D', hCD', hkp⟩
        obtain ⟨x0, x3, xD, xB, xS⟩ := HWV w5 hkp
        have HC5 : Hid (CD w.heap.size w5 (w.heap.size + 1 + 1) nb xs ((wVal ws).take (k + 1)) (.slice da nb dc) (.slice wa' ((wVal ws).take (k + 1)).length wc') (w.heap.size + 1) D') := by
          rw [List.take_succ_eq_append_getElem (by rw [wVal_len]; exact hkl), wVal_at ws k hkl]
          exact hCD'
        have X0 : Hid (w5.heap[w.heap.size]? = some (.cells #[.slice (some ⟨b, off, none⟩) (nb * 64) ca, .slice (some ⟨g, offp, none⟩) m cp] 33 (0, 0))) := x0
        have X3 : Hid (w5.heap[w.heap.size + 1 + 1 + 1]? = some (.cells #[.pointer (some ⟨w.heap.size + 1 + 1, 0, none⟩)] 44 (0, 0))) := x3
        have XD : Hid (w5.heap[Dd]? = some (.deferred (some []))) := xD
        have XB : Hid (Below w.heap.size w w5) := xB
        clear hCD' hkp x0 x3 xD xB HWV
        go_simp
        refine hK.out _ _ xS (fun _ => ?_)
        refine wpAnyH_done (by kernel_rfl) (NoPanic.normal ?_) _
        clear hK K hS hS0
        go_wp2
        go_roundw
        case rel => exact ⟨k + 1, wa', wc', D', by omega, by go_num, HC5, X0, X3, XD, XB⟩
        case measure => simp [intOf]; omega
      · have hfin : (wVal ws).take k = wVal ws := List.take_of_length_le (by rw [wVal_len, HP.out.1]; omega)
        rw [hfin] at hcd
        have c3 : wr.cell? ⟨w.heap.size + 1 + 1 + 1, 0, none⟩ = some (.pointer (some ⟨w.heap.size + 1 + 1, 0, none⟩)) := by simpa using cell_of_row wr _ 0 _ _ _ ho3.out
        have HF := hcd
        have hdl : Hid (w.heap.size ≤ Dd) := by show w.heap.size ≤ Dd; omega
        clear hcd hlk hfin
        go_wp2
        refine ⟨by simp, .inl ⟨_, _, rfl, run_takeDeferred hdd.out, ?_⟩⟩
        exact ⟨_, results_tmp rfl _ _ _, _, _, _, _, _, _, rfl, HF.out.putD hdd.out _, hbl.out.trans (belowK_b (w := w) (Nat.le_refl _) wr Dd _ _ hdl.out hdd.out rfl rfl)⟩
end Go.Proofs.YtonpdbajoidigaaGreatDoor
