/-
  The cached disk: write.
-/
import Derived.Test.YtonpdbajoidigaaGreatDoorGb
namespace Go.Proofs.YtonpdbajoidigaaGreatDoor
open Go.RowKit
set_option linter.unusedSimpArgs false
set_option linter.unusedVariables false

theorem grown_kept {w w' : World} {row : Option Nat} (h : w.grownBy w' row) : Kept (fun g => row = some g) w w' :=
  ⟨h.os, h.tape, h.output, h.size, fun j hj hg => h.block j hj (fun e => hg e.symm)⟩
theorem grown_setCell (w : World) (p : Addr) (v : Value) : w.grownBy (w.setCell p v) (some p.block) :=
  ⟨rfl, rfl, rfl, by simp [World.setCell], fun j _ hg => Below.heap_setCell _ _ _ _ (fun e => hg (by rw [e]))⟩
theorem grown_drew (w : World) (row : Option Nat) : w.grownBy w.drew row := ⟨rfl, rfl, rfl, Nat.le_refl _, fun _ _ _ => rfl⟩
theorem owns_tag {w : World} {B e sz n : Nat} {v : Value} {xs : List Value} (h : w.ownsRow B e sz v n xs) {g : Nat} (hg : v.ownBlock = some g) : ∃ cur, w.heap[g]? = some (.cells cur e (0, 0)) := by
  rcases h.2 with ⟨rfl, _⟩ | ⟨g', cap, cur, rfl, _, hh, _⟩
  · simp [Value.ownBlock] at hg
  · simp only [Value.ownBlock, Option.some.injEq] at hg
    subst hg
    exact ⟨cur, hh⟩
theorem cells_new (w : World) (vs : List Value) (t : TypeId) : ∀ j u, vs[j]? = some u → (w.alloc (.cells vs.toArray t)).cell? ((⟨w.heap.size, 0, none⟩ : Addr).add j) = some u := by
  intro j u hu
  rw [Addr.add_mid, Nat.zero_add]
  have := cell_of_row (w.alloc (.cells vs.toArray t)) w.heap.size j _ _ _ (heap_alloc_new w (.cells vs.toArray t))
  rw [this]
  simpa using hu
theorem range_new (w : World) (vs : List Value) (t : TypeId) : (w.alloc (.cells vs.toArray t)).rangeAt w.heap.size 0 vs := fun j v hv => by
  have := cells_new w vs t j v hv
  rwa [Addr.add_mid] at this
theorem range_block {w w' : World} {b o : Nat} {cs : List Value} (h : w.rangeAt b o cs) (hb : w'.heap[b]? = w.heap[b]?) : w'.rangeAt b o cs := fun j v hv => (World.cell?_of_block (a := ⟨b, o + j, none⟩) hb).trans (h j v hv)

section
variable {B : Nat} {w w' : World} {C nb : Nat} {xs : List Int} {ws : List (Int × List Int)} {dv wv : Value} {M : Nat} {D : DataW Unit}
theorem CD.neM (h : CD B w C nb xs ws dv wv M D) : C ≠ M := by
  rintro rfl
  obtain ⟨es, clock, hb, _⟩ := h.map
  rw [h.cell] at hb
  cases hb
theorem CD.ltC (h : CD B w C nb xs ws dv wv M D) : C < w.heap.size := (Array.getElem?_eq_some_iff.1 h.cell).1
theorem CD.ltM (h : CD B w C nb xs ws dv wv M D) : M < w.heap.size := h.map.lt
theorem CD.wvNe (h : CD B w C nb xs ws dv wv M D) {g : Nat} (hg : wv.ownBlock = some g) : g ≠ C ∧ g ≠ M ∧ dv.ownBlock ≠ some g ∧ g < w.heap.size := by
  obtain ⟨cur, hc⟩ := owns_tag h.wr hg
  refine ⟨?_, ?_, ?_, (Array.getElem?_eq_some_iff.1 hc).1⟩
  · rintro rfl; rw [h.cell] at hc; injection hc with hc; injection hc with _ hc; revert hc; decide
  · rintro rfl; obtain ⟨es, clock, hb, _⟩ := h.map; rw [hb] at hc; cases hc
  · intro hd; obtain ⟨cur', hc'⟩ := owns_tag h.dur hd; rw [hc] at hc'; injection hc' with hc'; injection hc' with _ hc'; revert hc'; decide
theorem CD.dvNe (h : CD B w C nb xs ws dv wv M D) {g : Nat} (hg : dv.ownBlock = some g) : g ≠ C ∧ g ≠ M ∧ wv.ownBlock ≠ some g ∧ g < w.heap.size := by
  obtain ⟨cur, hc⟩ := owns_tag h.dur hg
  refine ⟨?_, ?_, ?_, (Array.getElem?_eq_some_iff.1 hc).1⟩
  · rintro rfl; rw [h.cell] at hc; injection hc with hc; injection hc with _ hc; revert hc; decide
  · rintro rfl; obtain ⟨es, clock, hb, _⟩ := h.map; rw [hb] at hc; cases hc
  · intro hd; obtain ⟨cur', hc'⟩ := owns_tag h.wr hd; rw [hc] at hc'; injection hc' with hc'; injection hc' with _ hc'; revert hc'; decide
theorem row_kept {v : Value} {e sz n : Nat} {vs : List Value} {G : Nat → Prop} (h : w.ownsRow B e sz v n vs) (hk : Kept G w w') (hG : ∀ g, v.ownBlock = some g → ¬ G g) : w'.ownsRow B e sz v n vs := by
  refine ⟨h.1, h.2.imp id ?_⟩
  rintro ⟨g, cap, cur, rfl, hg, hh, rest⟩
  exact ⟨g, cap, cur, rfl, hg, (hk.block g (Array.getElem?_eq_some_iff.1 hh).1 (hG g rfl)).trans hh, rest⟩
theorem map_kept {b n : Nat} {G : Nat → Prop} {R : Value → Option (DataW Unit × List MemPlace)} {k : TypeId} (h : w.ownsMap Tryz.prog k R b n D) (hk : Kept G w w') (hG : ¬ G b) : w'.ownsMap Tryz.prog k R b n D := by
  have hl := h.lt
  obtain ⟨es, clock, hb, rest⟩ := h
  exact ⟨es, clock, (hk.block b hl hG).trans hb, rest⟩
/-- All stays while the disk's own blocks are left alone. -/
theorem CD.kept {G : Nat → Prop} (h : CD B w C nb xs ws dv wv M D) (hk : Kept G w w') (hG : ∀ g, (g = C ∨ g = M ∨ dv.ownBlock = some g ∨ wv.ownBlock = some g) → ¬ G g) : CD B w' C nb xs ws dv wv M D :=
  ⟨(hk.block C h.ltC (hG C (.inl rfl))).trans h.cell, row_kept h.dur hk (fun g hg => hG g (.inr (.inr (.inl hg)))), row_kept h.wr hk (fun g hg => hG g (.inr (.inr (.inr hg)))), map_kept h.map hk (hG M (.inr (.inl rfl))), h.young, h.len, h.lens, h.hC, h.hM⟩
theorem CD.below (h : CD B w C nb xs ws dv wv M D) (hb : Below w.heap.size w w') : CD B w' C nb xs ws dv wv M D := h.kept (Kept.of_below hb fun _ => False) (fun _ _ => id)
end

theorem exec_build {P : Program} {ρ : Operand → Value} {o : Oper} {t : TypeId} {parts : Array (Nat × Operand)} (ho : o.op = .build t parts) {cells : Array Value} {w : World} (h : (Instr.build t (parts.map fun (i, x) => (i, ρ x))).run P w = .ok (.agg cells) w) : (execOp ρ o).run P w = .ok (.value (.agg cells)) w := by
  unfold execOp
  simp only [ho, Sem.run_bind, h, Result.andThen_ok, Sem.run_pure]
theorem wp_buildS {P : Program} {o : Oper} {a : Act} {w w' : World} {v : Value} {K : Act → World → Prop} {Q : Exit → Act → World → Prop} (t : TypeId) (len : Nat) (parts : Array (Nat × Operand)) (ho : o.op = .buildSlice t len parts) (hr : (Instr.buildSlice t len (parts.map fun (i, x) => (i, a.eval x))).run P w = .ok v w') (h : K (a.put o.dst v) w') : o.wp P a w K Q := by
  unfold Oper.wp execOp
  simp only [ho, Sem.run_bind, hr, Result.andThen_ok, Sem.run_pure]
  exact h

theorem cwrite_done {B C nb : Nat} {xs : List Int} {ws : List (Int × List Int)} {dv : Value} {wa : Option Addr} {wc M : Nat} {D : DataW Unit} {b : Int} {X : List Int} {w w1 w2 : World} {o : Obj} {g' cap' : Nat}
    (H : CD B w C nb xs ws dv (.slice wa ws.length wc) M D) (hX : X.length = 64) (hb : (Lit.int .i64 b).wf = true) (kb1 : Kept (fun g => g = M) w w1) (HM1 : w1.ownsMap Tryz.prog 2 (plainElem Tryz.prog 3) M (ws.length + 1) (D.put (.int .i64 b) (.lit (.int .i64 (ws.length : Int)))))
    (hg2 : (w1.drew.alloc o).grownBy w2 (Value.slice wa ws.length wc).ownBlock) (hown2 : w2.ownsRow B 93 65 (.slice (some ⟨g', 0, none⟩) (ws.length + 1) cap') (ws.length + 1) (cwsL ws ++ cwL (b, X))) :
    w2.heap[C]? = some (.cells #[dv, .slice wa ws.length wc, .map (some M)] 91 (0, 0)) ∧
    CD B (w2.setCell ⟨C, 1, none⟩ (.slice (some ⟨g', 0, none⟩) (ws.length + 1) cap')) C nb xs (ws ++ [(b, X)]) dv (.slice (some ⟨g', 0, none⟩) (ws ++ [(b, X)]).length cap') M (D.put (.int .i64 b) (.lit (.int .i64 (ws.length : Int)))) ∧
    Kept (fun g => g = C ∨ g = M ∨ (Value.slice wa ws.length wc).ownBlock = some g) w (w2.setCell ⟨C, 1, none⟩ (.slice (some ⟨g', 0, none⟩) (ws.length + 1) cap')) := by
  have k12 : Kept (fun g => (Value.slice wa ws.length wc).ownBlock = some g) w1 w2 := (Kept.of_below (((Below.refl _ w1).drew).alloc (Nat.le_refl _) o) _).trans (grown_kept hg2)
  have k2 : Kept (fun g => g = M ∨ (Value.slice wa ws.length wc).ownBlock = some g) w w2 := (kb1.mono fun g hg => .inl hg).trans (k12.mono fun g hg => .inr hg)
  have ks := Kept.setCell w2 ⟨C, 1, none⟩ (.slice (some ⟨g', 0, none⟩) (ws.length + 1) cap') (fun g => g = C) rfl
  have g2 : w2.heap[C]? = some (.cells #[dv, .slice wa ws.length wc, .map (some M)] 91 (0, 0)) := (k2.block C H.ltC (fun hg => by
    rcases hg with hg | hg
    · exact H.neM hg
    · exact (H.wvNe hg).1 rfl)).trans H.cell
  have kt : Kept (fun g => g = C ∨ g = M ∨ (Value.slice wa ws.length wc).ownBlock = some g) w (w2.setCell ⟨C, 1, none⟩ (.slice (some ⟨g', 0, none⟩) (ws.length + 1) cap')) := (k2.mono fun g hg => .inr hg).trans (ks.mono fun g hg => .inl hg)
  have hl : (ws ++ [(b, X)]).length = ws.length + 1 := by simp
  refine ⟨g2, ⟨?_, ?_, ?_, ?_, ?_, H.len, ?_, H.hC, H.hM⟩, kt⟩
  · rw [hl]
    simp [World.setCell, Array.getElem?_modify, g2]
  · refine row_kept H.dur kt (fun g hg hh => ?_)
    obtain ⟨n1, n2, n3, _⟩ := H.dvNe hg
    rcases hh with hh | hh | hh
    · exact n1 hh
    · exact n2 hh
    · exact n3 hh
  · rw [hl, cwsL_snoc]
    refine row_kept hown2 ks (fun g hg hh => ?_)
    subst hh
    obtain ⟨cur, hc⟩ := owns_tag hown2 hg
    rw [g2] at hc
    injection hc with hc
    injection hc with _ hc
    revert hc
    decide
  · rw [hl]
    refine map_kept (map_kept HM1 k12 (fun hh => (H.wvNe hh).2.1 rfl)) ks (fun hh => H.neM hh.symm)
  · exact H.young.put b hb X
  · intro x hx
    rw [List.mem_append] at hx
    rcases hx with hx | hx
    · exact H.lens x hx
    · rw [List.mem_singleton] at hx; subst hx; exact ⟨hX, hb⟩

set_option maxRecDepth 100000 in
set_option maxHeartbeats 2000000 in
theorem cwrite_any (B C nb : Nat) (xs : List Int) (ws : List (Int × List Int)) (dv : Value) (wa : Option Addr) (wc M : Nat) (D : DataW Unit) (b : Int) (X : List Int) (w : World) (h : CD B w C nb xs ws dv (.slice wa ws.length wc) M D) (hX : X.length = 64) (hb : (Lit.int .i64 b).wf = true) (hm : ws.length < 4095) (hB : B ≤ w.heap.size) :
    Calls Tryz.prog 37 #[.pointer (some ⟨C, 0, none⟩), .int .i64 b, .agg (u8s X).toArray] w fun e w' => (∃ v, e = .returned v) ∧ ∃ wa' wc' D', CD B w' C nb xs (ws ++ [(b, X)]) dv (.slice wa' (ws ++ [(b, X)]).length wc') M D' ∧ Kept (fun g => g = C ∨ g = M ∨ (Value.slice wa ws.length wc).ownBlock = some g) w w' := by
  obtain ⟨k1, k2, k3, kf⟩ := cells3 h.cell
  have hlC := h.ltC
  have hlM := h.ltM
  have hCM := h.neM
  obtain ⟨i0, hi, hz0, hz1, hz2⟩ := info_parts info93
  have H : Hid (CD B w C nb xs ws dv (.slice wa ws.length wc) M D) := h
  obtain ⟨w1, hrun, hown1, hg1⟩ := (h.map.alloc (Obj.cells (u8s X).toArray 74)).drew.update (Maps.int_keyed Tryz.underlying2) Tryz.underlying89 (by unfold maxLen; omega) (Maps.keyOf_int_mk Tryz.underlying2 hb) (plainElem_int Tryz.underlying3 (wf_nat ws.length (by omega)))
  have kb1 : Kept (fun g => g = M) w w1 := ((Kept.of_below (((Below.refl _ w).alloc (Nat.le_refl _) (Obj.cells (u8s X).toArray 74)).drew) _).trans ((grown_kept hg1).mono fun g hg => by injection hg with hg; exact hg.symm))
  have bx1 : w1.heap[w.heap.size]? = some (.cells (u8s X).toArray 74 (0, 0)) := by
    rw [hg1.block w.heap.size (by simp) (by intro e; injection e with e; omega)]
    exact heap_alloc_new w _
  have hlC1 : C < w1.heap.size := Nat.lt_of_lt_of_le hlC kb1.size
  have sz1 : w.heap.size < w1.heap.size := (Array.getElem?_eq_some_iff.1 bx1).1
  have g1 : w1.heap[C]? = some (.cells #[dv, .slice wa ws.length wc, .map (some M)] 91 (0, 0)) := (kb1.block C hlC hCM).trans h.cell
  have r1 : w1.rangeAt w.heap.size 0 (u8s X) := fun j v hv => by
    have := cell_of_row w1 w.heap.size j _ _ _ bx1
    rw [Nat.zero_add, this]; simpa using hv
  obtain ⟨j1, j2, j3, jf⟩ := cells3 g1
  have wr1 := row_kept h.wr kb1 (fun g hg => (h.wvNe hg).2.1)
  have HK1 : Hid (Kept (fun g => g = M) w w1) := kb1
  have HO1 := Hid.out hown1
  have HG1 : Hid (w1.heap[C]? = some (.cells #[dv, .slice wa ws.length wc, .map (some M)] 91 (0, 0))) := g1
  have HW1 : Hid (w1.ownsRow B 93 65 (.slice wa ws.length wc) ws.length (cwsL ws)) := wr1
  have HM1 : Hid (w1.ownsMap Tryz.prog 2 (plainElem Tryz.prog 3) M (ws.length + 1) (D.put (.int .i64 b) (.lit (.int .i64 (ws.length : Int))))) := hown1
  have SS0 : (w.alloc (Obj.cells (u8s X).toArray 74)).drew.cell? ⟨C, 1, none⟩ = some (.slice wa ws.length wc) ∧ (w.alloc (Obj.cells (u8s X).toArray 74)).drew.cell? ⟨C, 2, none⟩ = some (.map (some M)) :=
    ⟨(((Below.refl _ w).alloc (Nat.le_refl _) _).cell (p := ⟨C, 1, none⟩) hlC).trans k2, (((Below.refl _ w).alloc (Nat.le_refl _) _).cell (p := ⟨C, 2, none⟩) hlC).trans k3⟩
  have hbd := fun W => build_cw W b X hX
  have hbs := fun W => build_one (P := Tryz.prog) W 88 93 i0 _ (cwL (b, X)) Tryz.underlying88 hi hz0 (by rw [hz1, cwL_len _ hX]) (by rw [cwL_len _ hX]; omega) (by rw [cwL_len _ hX]; omega)
  have HHR := hrun
  have r1' : (w1.drew.alloc (Obj.cells (cwL (b, X)).toArray 93)).rangeAt w.heap.size 0 (u8s X) := range_block r1 (heap_alloc_old w1 _ sz1)
  clear hown1 hg1 kb1 g1 wr1 HO1 h bx1
  go_enter Tryz.func37, Tryz.ntmps37
  go_wp2
  refine wp_region_held_drew (S := fun W => W.cell? ⟨C, 1, none⟩ = some (.slice wa ws.length wc) ∧ W.cell? ⟨C, 2, none⟩ = some (.map (some M))) (by kernel_rfl) SS0 (fun hS => ?_)
  refine wpAnyH_take (i := 0) (v := .pointer (some ⟨C, 0, none⟩)) rfl (by kernel_rfl) (by kernel_rfl) (by kernel_rfl) (fun _ _ _ h => h) (Or.inl ⟨rfl, fun W hW => by go_simp⟩) hS ?_
  refine wpAnyH_take (i := 1) (v := .pointer (some ⟨C, 0, none⟩)) rfl (by kernel_rfl) (by kernel_rfl) (by kernel_rfl) (fun _ _ _ h => h) (Or.inl ⟨rfl, fun W hW => by go_simp⟩) hS ?_
  refine wpAnyH_take (i := 2) (v := .pointer (some ⟨C, 2, none⟩)) rfl (by kernel_rfl) (by kernel_rfl) (by kernel_rfl) (fun _ _ _ h => h) (Or.inl ⟨rfl, fun W hW => by go_simp⟩) hS ?_
  refine wpAnyH_take (i := 3) (v := .map (some M)) rfl (by kernel_rfl) (by kernel_rfl) (by kernel_rfl) (fun _ _ _ h => h) (Or.inl ⟨rfl, fun W hW => by obtain ⟨h1, h2⟩ := hW; go_simp⟩) hS ?_
  refine wpAnyH_take (i := 4) (v := .int .i64 b) rfl (by kernel_rfl) (by kernel_rfl) (by kernel_rfl) (fun _ _ _ h => h) (Or.inl ⟨rfl, fun W hW => by go_simp⟩) hS ?_
  refine wpAnyH_take (i := 5) (v := .pointer (some ⟨C, 0, none⟩)) rfl (by kernel_rfl) (by kernel_rfl) (by kernel_rfl) (fun _ _ _ h => h) (Or.inl ⟨rfl, fun W hW => by go_simp⟩) hS ?_
  refine wpAnyH_take (i := 6) (v := .pointer (some ⟨C, 0, none⟩)) rfl (by kernel_rfl) (by kernel_rfl) (by kernel_rfl) (fun _ _ _ h => h) (Or.inl ⟨rfl, fun W hW => by go_simp⟩) hS ?_
  refine wpAnyH_take (i := 7) (v := .pointer (some ⟨C, 1, none⟩)) rfl (by kernel_rfl) (by kernel_rfl) (by kernel_rfl) (fun _ _ _ h => h) (Or.inl ⟨rfl, fun W hW => by go_simp⟩) hS ?_
  refine wpAnyH_take (i := 8) (v := .slice wa ws.length wc) rfl (by kernel_rfl) (by kernel_rfl) (by kernel_rfl) (fun _ _ _ h => h) (Or.inl ⟨rfl, fun W hW => by obtain ⟨h1, h2⟩ := hW; go_simp⟩) hS ?_
  refine wpAnyH_take (i := 9) (v := .int .i64 ws.length) rfl (by kernel_rfl) (by kernel_rfl) (by kernel_rfl) (fun _ _ _ h => h) (Or.inl ⟨rfl, fun W hW => by go_simp⟩) hS ?_
  refine wpAnyH_ready (rs := [10]) (by kernel_rfl) (by simp) (AllReadyH.cons rfl (fun K hK => ?_) AllReadyH.nil)
  go_simp
  refine hK.out _ _ ⟨j2, j3⟩ (fun _ => ?_)
  clear hK K hS hrun HHR SS0
  refine wpAnyH_done (by kernel_rfl) ?_ _
  go_wp2
  refine wp_region_held_drew (S := fun W => W.rangeAt w.heap.size 0 (u8s X)) (by kernel_rfl) r1 (fun hS => ?_)
  refine wpAnyH_take (i := 0) (v := .pointer (some ⟨C, 0, none⟩)) rfl (by kernel_rfl) (by kernel_rfl) (by kernel_rfl) (fun _ _ _ h => h) (Or.inl ⟨rfl, fun W hW => by go_simp⟩) hS ?_
  refine wpAnyH_take (i := 1) (v := .pointer (some ⟨C, 0, none⟩)) rfl (by kernel_rfl) (by kernel_rfl) (by kernel_rfl) (fun _ _ _ h => h) (Or.inl ⟨rfl, fun W hW => by go_simp⟩) hS ?_
  refine wpAnyH_take (i := 2) (v := .pointer (some ⟨C, 0, none⟩)) rfl (by kernel_rfl) (by kernel_rfl) (by kernel_rfl) (fun _ _ _ h => h) (Or.inl ⟨rfl, fun W hW => by go_simp⟩) hS ?_
  refine wpAnyH_take (i := 3) (v := .pointer (some ⟨C, 1, none⟩)) rfl (by kernel_rfl) (by kernel_rfl) (by kernel_rfl) (fun _ _ _ h => h) (Or.inl ⟨rfl, fun W hW => by go_simp⟩) hS ?_
  refine wpAnyH_take (i := 5) (v := .int .i64 b) rfl (by kernel_rfl) (by kernel_rfl) (by kernel_rfl) (fun _ _ _ h => h) (Or.inl ⟨rfl, fun W hW => by go_simp⟩) hS ?_
  refine wpAnyH_take (i := 6) (v := .agg (u8s X).toArray) rfl (by kernel_rfl) (by kernel_rfl) (by kernel_rfl) (fun _ _ _ h => h) (yieldsIf_load_mid rfl 74 (.tmp 5) rfl w.heap.size 0 rfl (u8s X) _ (fun W hW => hW) Tryz.underlying74 rfl (by rw [u8s_len, hX]; exact infoBB)) hS ?_
  refine wpAnyH_take (i := 7) (v := .agg (cwL (b, X)).toArray) rfl (by kernel_rfl) (by kernel_rfl) (by kernel_rfl) (fun _ _ _ h => h) (Or.inl ⟨rfl, fun W hW => by exact exec_build rfl (by simp only [List.map_toArray, List.map_cons, List.map_nil]; exact hbd W)⟩) hS ?_
  refine wpAnyH_ready (rs := [4, 8]) (by kernel_rfl) (by simp) (AllReadyH.cons rfl (fun K hK => ?_) (AllReadyH.cons rfl (fun K hK => ?_) AllReadyH.nil))
  · go_simp
    refine hK.out _ _ r1 (fun hS => ?_)
    clear hK K
    refine wpAnyH_ready (rs := [8]) (by kernel_rfl) (by simp) (AllReadyH.cons rfl (fun K hK => ?_) AllReadyH.nil)
    refine if_wanted rfl (wp_buildS 88 1 _ rfl (by simp only [List.map_toArray, List.map_cons, List.map_nil]; exact hbs _) ?_)
    refine hK.out _ _ r1' (fun hS => ?_)
    clear hK K
    refine wpAnyH_ready (rs := [9]) (by kernel_rfl) (by simp) (AllReadyH.cons rfl (fun K hK => ?_) AllReadyH.nil)
    refine if_wanted rfl (wp_append_own _ (.tmp 20) (.tmp 24) 88 rfl B 93 i0 _ 65 72 Tryz.underlying88 hi hz0 hz1 hz2 rfl (by decide) (.slice wa ws.length wc) ws.length (cwsL ws) rfl (HW1.out.alloc _) ⟨w1.heap.size, 0, none⟩ 1 1 (cwL (b, X)) rfl (by rw [cwL_len _ hX]) (cells_new w1.drew (cwL (b, X)) _) (cwL_one _) (by unfold maxLen; omega) (by omega) (by simp; omega) (fun v' w2 hown2 hg2 _ => ?_))
    obtain ⟨g', cap', rfl⟩ : ∃ g' cap', v' = .slice (some ⟨g', 0, none⟩) (ws.length + 1) cap' := by
      rcases hown2.2 with ⟨_, h0⟩ | ⟨g', cap', cur, e, _⟩
      · omega
      · exact ⟨g', cap', e⟩
    obtain ⟨g2, hCD, hkt⟩ := cwrite_done H.out hX hb HK1.out HM1.out hg2 hown2
    obtain ⟨_, m2, _, mf⟩ := cells3 g2
    have hr2 : w2.rangeAt w.heap.size 0 (u8s X) := range_block r1' (hg2.block w.heap.size (by simp; omega) (fun e => by have := (H.out.wvNe e.symm).2.2.2; omega))
    have HCD := Hid.out hCD
    have hr3 : (w2.setCell ⟨C, 1, none⟩ (.slice (some ⟨g', 0, none⟩) (ws.length + 1) cap')).rangeAt w.heap.size 0 (u8s X) := range_block hr2 (Below.heap_setCell _ _ _ _ (by show w.heap.size ≠ C; omega))
    refine hK.out _ _ hr2 (fun hS => ?_)
    clear hK K hown2 hg2 g2
    refine wpAnyH_take (i := 10) (v := .pointer (some ⟨C, 0, none⟩)) rfl (by kernel_rfl) (by kernel_rfl) (by kernel_rfl) (fun _ _ _ h => h) (Or.inl ⟨rfl, fun W hW => by go_simp⟩) hS ?_
    refine wpAnyH_take (i := 11) (v := .pointer (some ⟨C, 1, none⟩)) rfl (by kernel_rfl) (by kernel_rfl) (by kernel_rfl) (fun _ _ _ h => h) (Or.inl ⟨rfl, fun W hW => by go_simp⟩) hS ?_
    refine wpAnyH_ready (rs := [12]) (by kernel_rfl) (by simp) (AllReadyH.cons rfl (fun K hK => ?_) AllReadyH.nil)
    go_simp
    refine hK.out _ _ hr3 (fun _ => ?_)
    refine wpAnyH_done (by kernel_rfl) ?_ _
    go_end0
    exact ⟨⟨_, rfl⟩, _, _, _, HCD, hkt⟩
  · refine if_wanted rfl (wp_buildS 88 1 _ rfl (by simp only [List.map_toArray, List.map_cons, List.map_nil]; exact hbs _) ?_)
    refine hK.out _ _ r1' (fun hS => ?_)
    clear hK K
    refine wpAnyH_ready (rs := [4]) (by kernel_rfl) (by simp) (AllReadyH.cons rfl (fun K hK => ?_) AllReadyH.nil)
    go_simp
    refine hK.out _ _ r1' (fun hS => ?_)
    clear hK K
    refine wpAnyH_ready (rs := [9]) (by kernel_rfl) (by simp) (AllReadyH.cons rfl (fun K hK => ?_) AllReadyH.nil)
    refine if_wanted rfl (wp_append_own _ (.tmp 20) (.tmp 24) 88 rfl B 93 i0 _ 65 72 Tryz.underlying88 hi hz0 hz1 hz2 rfl (by decide) (.slice wa ws.length wc) ws.length (cwsL ws) rfl (HW1.out.alloc _) ⟨w1.heap.size, 0, none⟩ 1 1 (cwL (b, X)) rfl (by rw [cwL_len _ hX]) (cells_new w1.drew (cwL (b, X)) _) (cwL_one _) (by unfold maxLen; omega) (by omega) (by simp; omega) (fun v' w2 hown2 hg2 _ => ?_))
    obtain ⟨g', cap', rfl⟩ : ∃ g' cap', v' = .slice (some ⟨g', 0, none⟩) (ws.length + 1) cap' := by
      rcases hown2.2 with ⟨_, h0⟩ | ⟨g', cap', cur, e, _⟩
      · omega
      · exact ⟨g', cap', e⟩
    obtain ⟨g2, hCD, hkt⟩ := cwrite_done H.out hX hb HK1.out HM1.out hg2 hown2
    obtain ⟨_, m2, _, mf⟩ := cells3 g2
    have hr2 : w2.rangeAt w.heap.size 0 (u8s X) := range_block r1' (hg2.block w.heap.size (by simp; omega) (fun e => by have := (H.out.wvNe e.symm).2.2.2; omega))
    have HCD := Hid.out hCD
    have hr3 : (w2.setCell ⟨C, 1, none⟩ (.slice (some ⟨g', 0, none⟩) (ws.length + 1) cap')).rangeAt w.heap.size 0 (u8s X) := range_block hr2 (Below.heap_setCell _ _ _ _ (by show w.heap.size ≠ C; omega))
    refine hK.out _ _ hr2 (fun hS => ?_)
    clear hK K hown2 hg2 g2
    refine wpAnyH_take (i := 10) (v := .pointer (some ⟨C, 0, none⟩)) rfl (by kernel_rfl) (by kernel_rfl) (by kernel_rfl) (fun _ _ _ h => h) (Or.inl ⟨rfl, fun W hW => by go_simp⟩) hS ?_
    refine wpAnyH_take (i := 11) (v := .pointer (some ⟨C, 1, none⟩)) rfl (by kernel_rfl) (by kernel_rfl) (by kernel_rfl) (fun _ _ _ h => h) (Or.inl ⟨rfl, fun W hW => by go_simp⟩) hS ?_
    refine wpAnyH_ready (rs := [12]) (by kernel_rfl) (by simp) (AllReadyH.cons rfl (fun K hK => ?_) AllReadyH.nil)
    go_simp
    refine hK.out _ _ hr3 (fun _ => ?_)
    refine wpAnyH_done (by kernel_rfl) ?_ _
    go_end0
    exact ⟨⟨_, rfl⟩, _, _, _, HCD, hkt⟩
end Go.Proofs.YtonpdbajoidigaaGreatDoor
