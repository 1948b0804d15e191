/-
  Spn, Spo, Spp, Spq, Spr.
-/
import Derived.Test.YtonpdbajoidigaaGreatDoorGr
import Derived.WideMake
import Derived.MapKept
import Derived.Lib.BufferWrite
/-
  FnSpace: the maps of files: found, put, dropped.
-/
namespace Go.Proofs.YtonpdbajoidigaaGreatDoor
open Go.RowKit
set_option linter.unusedSimpArgs false
set_option linter.unusedVariables false

/-- A file as the engine holds it. -/
structure FR where
  nm : ByteArray
  lid : Int
  sz : Int
  la : Option Addr
  ln : Nat
  lc : Nat
def FR.val (f : FR) : Value := .agg #[.int .i64 f.lid, .string f.nm, .int .i64 f.sz, .slice f.la f.ln f.lc]
def FR.none : FR := ⟨⟨#[]⟩, 0, 0, .none, 0, 0⟩
def MF (w : World) (r : Nat) (fs : List FR) : Prop :=
  ∃ arr clock, w.heap[r]? = some (.map arr clock) ∧ arr.toList.map (fun x : MapEntry => (x.key, x.val)) = fs.map (fun f => (Value.string f.nm, f.val)) ∧ MapKept.Stamped arr clock
def lookF (s : ByteArray) : List FR → Option FR
  | [] => .none
  | f :: r => if s = f.nm then some f else lookF s r
def dropF (s : ByteArray) : List FR → List FR
  | [] => []
  | f :: r => if s = f.nm then r else f :: dropF s r
theorem MF.lt {w : World} {r : Nat} {fs : List FR} (h : MF w r fs) : r < w.heap.size := by
  obtain ⟨arr, clock, h1, h2, hst⟩ := h
  exact (Array.getElem?_eq_some_iff.1 h1).1
theorem MF.kd {S : Nat → Prop} {w w' : World} {r : Nat} {fs : List FR} (h : MF w r fs) (hk : Kd S w w') (hS : ¬ S r) : MF w' r fs := by
  obtain ⟨arr, clock, h1, h2, hst⟩ := h
  refine ⟨arr, clock, hk.obj r _ h1 hS (fun k => ?_), h2, hst⟩
  rcases k with ⟨c, f, k⟩ | ⟨c, f, k⟩
  · cases k
  · cases k
theorem find_F (s : ByteArray) : ∀ (l : List MapEntry) (fs : List FR) (i : Nat), l.map (fun x : MapEntry => (x.key, x.val)) = fs.map (fun f => (Value.string f.nm, f.val)) →
    (Instr.findNow .string (.string s) l i = some .none ∧ lookF s fs = .none) ∨ ∃ j f, j < l.length ∧ Instr.findNow .string (.string s) l i = some (some (i + j, f.val)) ∧ lookF s fs = some f ∧ (l.eraseIdx j).map (fun x : MapEntry => (x.key, x.val)) = (dropF s fs).map (fun f => (Value.string f.nm, f.val))
  | [], [], i, _ => .inl ⟨rfl, rfl⟩
  | [], _ :: _, _, h => by simp at h
  | _ :: _, [], _, h => by simp at h
  | e :: l, p :: fs, i, h => by
    simp only [List.map_cons, List.cons.injEq, Prod.mk.injEq] at h
    obtain ⟨⟨hk, hv⟩, ht⟩ := h
    by_cases hs : s = p.nm
    · refine .inr ⟨0, p, by simp, ?_, by rw [lookF, if_pos hs], ?_⟩
      · have hb : (s == p.nm) = true := (MapKept.bytes_beq _ _).2 hs
        simp only [Instr.findNow, hk, Instr.sameNow, hb, hv, Nat.add_zero]
      · rw [dropF, if_pos hs]; exact ht
    · have hb : (s == p.nm) = false := by
        rw [Bool.eq_false_iff]
        intro h
        exact hs ((MapKept.bytes_beq _ _).1 h)
      rcases find_F s l fs (i + 1) ht with ⟨h1, h2⟩ | ⟨j, f, hj, h1, h2, h3⟩
      · exact .inl ⟨by simp only [Instr.findNow, hk, Instr.sameNow, hb]; exact h1, by rw [lookF, if_neg hs]; exact h2⟩
      · refine .inr ⟨j + 1, f, by simp; omega, ?_, by rw [lookF, if_neg hs]; exact h2, ?_⟩
        · simp only [Instr.findNow, hk, Instr.sameNow, hb]
          rw [h1]
          congr 3
          omega
        · rw [dropF, if_neg hs]
          simp only [List.eraseIdx_cons_succ, List.map_cons, hk, hv]
          rw [h3]
theorem mf_check (w : World) (e : Bool) (s : ByteArray) : (Instr.checkKey e 10000 9 (.string s)).run Tryz.prog w = .ok () w := MapKept.run_checkKey (k := .string s) Tryz.underlying9 (by simp [MapKept.IsKey]) e 9999
theorem mf_look {w : World} {r : Nat} {fs : List FR} (h : MF w r fs) (s : ByteArray) (o : Option FR) (ho : lookF s fs = o) :
    (Instr.lookup 58 (.map (some r)) (.string s) true).run Tryz.prog w = .ok (.tuple #[(o.getD FR.none).val, .bool o.isSome]) w := by
  obtain ⟨arr, clock, h1, h2, hst⟩ := h
  have hz : (zeroValue 119).run Tryz.prog w = .ok (FR.none.val) w := by simp [go_sem, FR.none, FR.val]
  rcases find_F s arr.toList fs 0 h2 with ⟨hf, hl⟩ | ⟨j, f, _, hf, hl, _⟩
  · rw [ho] at hl
    subst hl
    simp [Instr.lookup, run_underlying Tryz.underlying58, MapKept.run_getObj_map h1, mf_check, MapKept.run_findKey Tryz.underlying9 hf, hz, Result.andThen]
  · rw [ho] at hl
    subst hl
    simp [Instr.lookup, run_underlying Tryz.underlying58, MapKept.run_getObj_map h1, mf_check, MapKept.run_findKey Tryz.underlying9 hf, Result.andThen]
theorem kept_map (w : World) (r : Nat) (o : Obj) : Kept (fun g => g = r) w { w with heap := w.heap.setIfInBounds r o } :=
  ⟨rfl, rfl, rfl, by simp, fun k _ hk => by simp [Array.getElem?_setIfInBounds, Ne.symm hk]⟩
theorem lookF_no {s : ByteArray} : ∀ {fs : List FR}, lookF s fs = .none → ∀ f ∈ fs, f.nm ≠ s := by
  intro fs
  induction fs with
  | nil => intro _ f hf; cases hf
  | cons g r ih =>
    intro h f hf
    rw [lookF] at h
    split at h
    · cases h
    · next hne =>
      rcases List.mem_cons.1 hf with rfl | hf
      · exact fun e => hne e.symm
      · exact ih h f hf
theorem key_of {l : List MapEntry} {fs : List FR} (h : l.map (fun x : MapEntry => (x.key, x.val)) = fs.map (fun f => (Value.string f.nm, f.val))) {x : MapEntry} (hx : x ∈ l) : ∃ f ∈ fs, x.key = .string f.nm ∧ x.val = f.val := by
  have hm : (x.key, x.val) ∈ l.map (fun x : MapEntry => (x.key, x.val)) := List.mem_map.2 ⟨x, hx, rfl⟩
  rw [h] at hm
  obtain ⟨f, hf, e⟩ := List.mem_map.1 hm
  injection e with e1 e2
  exact ⟨f, hf, e1.symm, e2.symm⟩
theorem key_ne {l : List MapEntry} {fs : List FR} {s : ByteArray} (h : l.map (fun x : MapEntry => (x.key, x.val)) = fs.map (fun f => (Value.string f.nm, f.val))) (hl : lookF s fs = .none) : ∀ x ∈ l, x.key ≠ .string s := fun x hx e => by
  obtain ⟨f, hf, e1, _⟩ := key_of h hx
  rw [e1] at e
  injection e with e
  exact lookF_no hl f hf e
theorem mf_put {w : World} {r : Nat} {fs : List FR} (h : MF w r fs) (f : FR) (hn : lookF f.nm fs = .none) :
    ∃ W, (Instr.mapUpdate 58 (.map (some r)) (.string f.nm) f.val).run Tryz.prog w = .ok () W ∧ MF W r (fs ++ [f]) ∧ Kept (fun g => g = r) w W := by
  obtain ⟨arr, clock, h1, h2, hst⟩ := h
  rcases find_F f.nm arr.toList fs 0 h2 with ⟨hf, hl⟩ | ⟨j, f', _, hf, hl, _⟩
  · refine ⟨{ w with heap := w.heap.setIfInBounds r (.map (arr.push { key := .string f.nm, val := f.val, born := clock }) (clock + 1)) }, ?_, ⟨_, _, (MapKept.heap_set h1).1, by simp [h2], MapKept.stamped_push hst (key_ne h2 hl)⟩, kept_map _ _ _⟩
    simp only [Instr.mapUpdate, Sem.run_bind, run_underlying Tryz.underlying58, MapKept.run_getObj_map h1, mf_check, MapKept.run_findKey Tryz.underlying9 hf, MapKept.run_setObj_map _ h1, Result.andThen]
  · rw [hn] at hl; cases hl
theorem mf_drop {w : World} {r : Nat} {fs : List FR} (h : MF w r fs) (s : ByteArray) (ty : TypeId) :
    ∃ W, (Builtin.delete_ #[58, 9] ty #[.map (some r), .string s]).run Tryz.prog w = .ok (.tuple #[]) W ∧ MF W r (dropF s fs) ∧ Kept (fun g => g = r) w W := by
  obtain ⟨arr, clock, h1, h2, hst⟩ := h
  rcases find_F s arr.toList fs 0 h2 with ⟨hf, hl⟩ | ⟨j, f', hj, hf, hl, hd⟩
  · refine ⟨{ w with heap := w.heap.setIfInBounds r (.map arr clock) }, ?_, ⟨arr, clock, (MapKept.heap_set h1).1, ?_, hst⟩, kept_map _ _ _⟩
    · simp [Builtin.delete_, run_underlying Tryz.underlying58, MapKept.run_getObj_map h1, mf_check, MapKept.run_findKey Tryz.underlying9 hf, MapKept.run_setObj_map _ h1, Result.andThen]
    · rw [h2]
      congr 1
      have key : ∀ fs : List FR, lookF s fs = .none → dropF s fs = fs := by
        intro fs
        induction fs with
        | nil => intro _; rfl
        | cons f r ih =>
          intro h
          rw [lookF] at h
          split at h
          · cases h
          · next hne => rw [dropF, if_neg hne, ih h]
      exact (key fs hl).symm
  · refine ⟨{ w with heap := w.heap.setIfInBounds r (.map (arr.eraseIdxIfInBounds j) clock) }, ?_, ⟨_, _, (MapKept.heap_set h1).1, ?_, MapKept.stamped_erase hst j⟩, kept_map _ _ _⟩
    · rw [Nat.zero_add] at hf
      simp [Builtin.delete_, run_underlying Tryz.underlying58, MapKept.run_getObj_map h1, mf_check, MapKept.run_findKey Tryz.underlying9 hf, MapKept.run_setObj_map _ h1, Result.andThen]
    · rw [← hd]
      have hj' : j < arr.size := by simpa using hj
      simp [Array.eraseIdxIfInBounds, hj', Array.toList_eraseIdx]
theorem four_ofF {W : World} {r : Nat} {u v x y : Value} {t : TypeId} (h : W.heap[r]? = some (.cells #[u, v, x, y] t (0, 0))) : (W.cell? ⟨r, 0, none⟩ = some u ∧ W.cell? ⟨r, 1, none⟩ = some v ∧ W.cell? ⟨r, 2, none⟩ = some x ∧ W.cell? ⟨r, 3, none⟩ = some y) ∧ W.frozen? ⟨r, 0, none⟩ = false ∧ W.frozen? ⟨r, 1, none⟩ = false ∧ W.frozen? ⟨r, 2, none⟩ = false ∧ W.frozen? ⟨r, 3, none⟩ = false := by
  refine ⟨⟨?_, ?_, ?_, ?_⟩, ?_, ?_, ?_, ?_⟩
  all_goals first | simp [World.cell?, h] | simp [World.frozen?, h]
set_option maxHeartbeats 1000000 in
set_option maxRecDepth 100000 in
theorem findF_any (r : Nat) (fs : List FR) (s : ByteArray) (o : Option FR) (w : World) (h : MF w r fs) (ho : lookF s fs = o) :
    Calls Tryz.prog 84 #[.agg #[.map (some r)], .string s] w fun e w' => e = .returned (.tuple #[(o.getD FR.none).val, .bool o.isSome]) ∧ Below w.heap.size w w' := by
  obtain ⟨W2, hW2⟩ : ∃ W2, (w.alloc (.cells #[.map (some r)] 60)).alloc (.cells #[.int .i64 0, .string ⟨#[]⟩, .int .i64 0, .slice .none 0 0] 119) = W2 := ⟨_, rfl⟩
  have hb : Below w.heap.size w W2 := by rw [← hW2]; exact ((Below.refl _ _).alloc (Nat.le_refl _) _).alloc (by simp) _
  have k1 : W2.heap[w.heap.size]? = some (.cells #[.map (some r)] 60 (0, 0)) := by rw [← hW2]; exact (heap_alloc_oldC _ _ _ (by simp)).trans (heap_alloc_new w _)
  have k2 : W2.heap[w.heap.size + 1]? = some (.cells #[.int .i64 0, .string ⟨#[]⟩, .int .i64 0, .slice .none 0 0] 119 (0, 0)) := by
    have e : (w.alloc (.cells #[.map (some r)] 60)).heap.size = w.heap.size + 1 := by simp
    rw [← hW2, ← e]
    exact heap_alloc_new _ _
  have hm : MF W2 r fs := h.kd (S := fun _ => False) (Kd.of_below hb) id
  have hlk := mf_look hm s o ho
  have c1 := cell_oneB k1
  obtain ⟨⟨x0, x1, x2, x3⟩, f0, f1, f2, f3⟩ := four_ofF k2
  have l2 : w.heap.size + 1 < W2.heap.size := (Array.getElem?_eq_some_iff.1 k2).1
  have l1 : w.heap.size < W2.heap.size := by omega
  have l3 : ¬ w.heap.size + 1 = W2.heap.size := by omega
  have l4 : ¬ W2.heap.size = w.heap.size + 1 := by omega
  obtain ⟨f, hf⟩ : ∃ f, o.getD FR.none = f := ⟨_, rfl⟩
  have HB := Lib.hid hb
  rw [hf] at hlk ⊢
  generalize o.isSome = q at *
  obtain ⟨nm, lid, sz, la, ln, lc⟩ := f
  unfold FR.val at *
  simp only at hlk
  clear h hm hb k1 k2 ho hf
  go_enter Tryz.func84, Tryz.ntmps84
  go_wp2
  refine bodyPost_ret (v := .tuple #[.agg #[.int .i64 lid, .string nm, .int .i64 sz, .slice la ln lc], .bool q]) (by simp [results, Tryz.results84, go_sem, x0, x1, x2, x3, l1, l2, l3, l4]) rfl ?_
  refine ⟨rfl, ?_⟩
  have hb := HB.out
  repeat' (first | with_reducible refine Below.setCell ?_ ?_ _ | with_reducible refine Below.alloc ?_ ?_ _ | with_reducible refine Below.drew ?_ | with_reducible assumption | with_reducible exact Below.refl _ _ | (simp; done) | (simp; omega) | omega)
end Go.Proofs.YtonpdbajoidigaaGreatDoor

/-
  FnSpace: files put, dropped, held.
-/
namespace Go.Proofs.YtonpdbajoidigaaGreatDoor
open Go.RowKit
set_option linter.unusedSimpArgs false
set_option linter.unusedVariables false

set_option maxHeartbeats 1000000 in
set_option maxRecDepth 100000 in
theorem dropF_any (E r : Nat) (fs : List FR) (s : ByteArray) (w : World) (c8 : w.cell? ⟨E, 8, none⟩ = some (.map (some r))) (h : MF w r fs) :
    Calls Tryz.prog 88 #[.pointer (some ⟨E, 8, none⟩), .string s] w fun e w' => (∃ v, e = .returned v) ∧ MF w' r (dropF s fs) ∧ Kept (fun g => g = r) w w' := by
  obtain ⟨W, hd, hm, hk⟩ := mf_drop h s 0
  have HM := Lib.hid (And.intro hm hk)
  clear h hm hk
  go_enter Tryz.func88, Tryz.ntmps88
  go_wp2
  go_end0
  exact ⟨⟨_, rfl⟩, HM.out⟩
set_option maxHeartbeats 1000000 in
set_option maxRecDepth 100000 in
theorem putF_any (E r : Nat) (fs : List FR) (f : FR) (w : World) (c8 : w.cell? ⟨E, 8, none⟩ = some (.map (some r))) (h : MF w r fs) (hn : lookF f.nm fs = .none) :
    Calls Tryz.prog 83 #[.pointer (some ⟨E, 8, none⟩), f.val] w fun e w' => (∃ v, e = .returned v) ∧ MF w' r (fs ++ [f]) ∧ Kept (fun g => g = r) w w' := by
  obtain ⟨W1, hW1⟩ : ∃ W1, w.alloc (.cells #[.int .i64 f.lid, .string f.nm, .int .i64 f.sz, .slice f.la f.ln f.lc] 119) = W1 := ⟨_, rfl⟩
  have hb : Below w.heap.size w W1 := by rw [← hW1]; exact (Below.refl _ _).alloc (Nat.le_refl _) _
  have k1 : W1.heap[w.heap.size]? = some (.cells #[.int .i64 f.lid, .string f.nm, .int .i64 f.sz, .slice f.la f.ln f.lc] 119 (0, 0)) := by rw [← hW1]; exact heap_alloc_new w _
  obtain ⟨⟨x0, x1, x2, x3⟩, _, _, _, _⟩ := four_ofF k1
  have hl : E < w.heap.size := World.block_lt_of_cell? w _ c8
  have d8 : W1.cell? ⟨E, 8, none⟩ = some (.map (some r)) := (hb.cell hl).trans c8
  have hm1 : MF W1 r fs := h.kd (S := fun _ => False) (Kd.of_below hb) id
  obtain ⟨W2, hp, hm, hk⟩ := mf_put (w := W1.drew) (f := f) hm1 hn
  have HM : Hid (MF W2 r (fs ++ [f]) ∧ Kept (fun g => g = r) w W2) := ⟨hm, (Kept.of_below hb.drew _).trans hk⟩
  unfold FR.val at hp
  clear h hm hk hm1 hb k1 hn
  unfold FR.val
  go_enter Tryz.func83, Tryz.ntmps83
  go_wp2
  go_region
  all_goals
    go_wp2
    go_end0
    exact ⟨⟨_, rfl⟩, HM.out⟩
set_option maxHeartbeats 1000000 in
set_option maxRecDepth 100000 in
theorem holdsF_yes (E r : Nat) (fs : List FR) (f g : FR) (w : World) (c9 : w.cell? ⟨E, 9, none⟩ = some (.map (some r))) (h : MF w r fs) (ho : lookF f.nm fs = some g) (hq : g.lid = f.lid) :
    Calls Tryz.prog 86 #[.pointer (some ⟨E, 9, none⟩), f.val] w fun e w' => e = .returned (.bool true) ∧ Below w.heap.size w w' := by
  obtain ⟨W1, hW1⟩ : ∃ W1, w.alloc (.cells #[.int .i64 f.lid, .string f.nm, .int .i64 f.sz, .slice f.la f.ln f.lc] 119) = W1 := ⟨_, rfl⟩
  have hb : Below w.heap.size w W1 := by rw [← hW1]; exact (Below.refl _ _).alloc (Nat.le_refl _) _
  have k1 : W1.heap[w.heap.size]? = some (.cells #[.int .i64 f.lid, .string f.nm, .int .i64 f.sz, .slice f.la f.ln f.lc] 119 (0, 0)) := by rw [← hW1]; exact heap_alloc_new w _
  obtain ⟨⟨x0, x1, x2, x3⟩, _, _, _, _⟩ := four_ofF k1
  have hl : E < w.heap.size := World.block_lt_of_cell? w _ c9
  have d9 : W1.cell? ⟨E, 9, none⟩ = some (.map (some r)) := (hb.cell hl).trans c9
  have hlE1 : E < W1.heap.size := World.block_lt_of_cell? W1 _ d9
  have hl1 : w.heap.size < W1.heap.size := (Array.getElem?_eq_some_iff.1 k1).1
  have hm1 : MF W1 r fs := h.kd (S := fun _ => False) (Kd.of_below hb) id
  have HFN : Hid (∀ V, Below W1.heap.size W1 V → Calls Tryz.prog 84 #[.agg #[.map (some r)], .string f.nm] V fun e w' => e = .returned (.tuple #[.agg #[.int .i64 g.lid, .string g.nm, .int .i64 g.sz, .slice g.la g.ln g.lc], .bool true]) ∧ Below V.heap.size V w') := fun V hV => (findF_any r fs f.nm (some g) V (hm1.kd (S := fun _ => False) (Kd.of_below hV) id) ho).mono fun e w' h => h
  have HB := Lib.hid hb
  have HQ := Lib.hid hq
  have hql : (g.lid == f.lid) = true := by rw [hq]; exact beq_self_eq_true _
  clear h hm1 hb ho hq
  unfold FR.val
  go_enter Tryz.func86, Tryz.ntmps86
  go_wp2_with fail
  go_region_law (first
    | (go_simp; go_at_call 84; refine (HFN.out _ (by first | exact (Below.refl _ _).drew | exact ((Below.refl _ _).alloc (Nat.le_refl _) _).drew)).mono ?_; rintro e w2 ⟨rfl, hb2⟩; have k2 := (hb2.block w.heap.size (by first | exact hl1 | (simp; omega))).trans (by first | exact k1 | exact (heap_alloc_oldC _ _ _ hl1).trans k1); have HB2 : Hid (Below w.heap.size w w2) := (by first | exact HB.out.drew.trans (hb2.mono HB.out.size) | exact ((HB.out.alloc HB.out.size _).drew).trans (hb2.mono (by have := HB.out.size; simp; omega))); have l2 : w.heap.size < w2.heap.size := (Array.getElem?_eq_some_iff.1 k2).1; (try (have k3 := (hb2.block W1.heap.size (by simp)).trans (heap_alloc_new W1 _); obtain ⟨⟨z0, z1, z2, z3⟩, g0, g1, g2, g3⟩ := four_ofF k3; have l3 : W1.heap.size < w2.heap.size := (Array.getElem?_eq_some_iff.1 k3).1; have l4 : ¬ W1.heap.size = w.heap.size := (by omega); have l5 : ¬ w.heap.size = W1.heap.size := (by omega); clear k3)); obtain ⟨⟨y0, y1, y2, y3⟩, _, _, _, _⟩ := four_ofF k2; clear hb2))
  all_goals
    clear x0 x1 x2 x3 k1 HFN
    go_wp2
    go_ret
    refine ⟨rfl, ?_⟩
    have hb := HB2.out
    repeat' (first | with_reducible refine Below.setCell ?_ ?_ _ | with_reducible refine Below.alloc ?_ ?_ _ | with_reducible refine Below.drew ?_ | with_reducible assumption | with_reducible exact Below.refl _ _ | (simp; done) | (simp; omega) | omega)
end Go.Proofs.YtonpdbajoidigaaGreatDoor

/-
  FnSpace: a file forgotten.
-/
namespace Go.Proofs.YtonpdbajoidigaaGreatDoor
open Go.RowKit
set_option linter.unusedSimpArgs false
set_option linter.unusedVariables false

theorem dropF_none (s : ByteArray) : ∀ fs : List FR, lookF s fs = .none → dropF s fs = fs := by
  intro fs
  induction fs with
  | nil => intro _; rfl
  | cons f r ih =>
    intro h
    rw [lookF] at h
    split at h
    · cases h
    · next hne => rw [dropF, if_neg hne, ih h]
theorem lookF_nm {s : ByteArray} : ∀ {fs : List FR} {f : FR}, lookF s fs = some f → f.nm = s := by
  intro fs
  induction fs with
  | nil => intro f h; cases h
  | cons g r ih =>
    intro f h
    rw [lookF] at h
    split at h
    · next e => injection h with h; rw [← h, e]
    · exact ih h
set_option maxHeartbeats 1000000 in
set_option maxRecDepth 100000 in
theorem forget_none (E C : Nat) (s b : Int) (W Dm : Nat) (tb : Value) (q a u o : Int) (hs : List Value) (fs : List FR) (nm : ByteArray) (w : World) (hE : EngAt w E C s b W Dm tb q a u o hs) (h : MF w W fs) (hl : lookF nm fs = .none) :
    Calls Tryz.prog 50 #[.pointer (some ⟨E, 0, none⟩), .string nm] w fun e w' => (∃ v, e = .returned v) ∧ MF w' W fs ∧ Kept (fun g => g = W) w w' := by
  have c8 := hE.c8
  have hlE := hE.lt
  have HFN : Hid (∀ V, Below w.heap.size w V → Calls Tryz.prog 84 #[.agg #[.map (some W)], .string nm] V fun e w' => e = .returned (.tuple #[FR.none.val, .bool false]) ∧ Below V.heap.size V w') := fun V hV => (findF_any W fs nm .none V (h.kd (S := fun _ => False) (Kd.of_below hV) id) hl).mono fun e w' h => h
  have HDR : Hid (∀ V, Below w.heap.size w V → Calls Tryz.prog 88 #[.pointer (some ⟨E, 8, none⟩), .string nm] V fun e w' => (∃ v, e = .returned v) ∧ MF w' W fs ∧ Kept (fun g => g = W) w w') := fun V hV => (dropF_any E W fs nm V ((hV.cell hlE).trans c8) (h.kd (S := fun _ => False) (Kd.of_below hV) id)).mono fun e w' ⟨h1, h2, h3⟩ => ⟨h1, by rw [dropF_none nm fs hl] at h2; exact h2, (Kept.of_below hV _).trans h3⟩
  clear hE h hl
  go_enter Tryz.func50, Tryz.ntmps50
  go_wp2_with fail
  refine (HFN.out w (Below.refl _ _)).mono ?_
  rintro e w1 ⟨rfl, hb1⟩
  have HB1 := Lib.hid hb1
  have l1 := hb1.size
  unfold FR.none FR.val
  clear hb1 HFN
  have c8b : w1.cell? ⟨E, 8, none⟩ = some (.map (some W)) := (HB1.out.cell hlE).trans c8
  have hlE1 : E < w1.heap.size := by omega
  go_wp2
  go_quiet (fail)
  go_wp2_with fail
  refine (HDR.out _ (by have hb := HB1.out; repeat' (first | with_reducible refine Below.setCell ?_ ?_ _ | with_reducible refine Below.alloc ?_ ?_ _ | with_reducible refine Below.drew ?_ | with_reducible refine below_drewN ?_ _ | with_reducible assumption | with_reducible exact Below.refl _ _ | (simp; done) | (simp; omega) | omega))).mono ?_
  rintro e w3 ⟨⟨v, rfl⟩, hr⟩
  have HR := Lib.hid hr
  clear hr HDR
  go_wp2
  go_end0
  exact ⟨⟨_, rfl⟩, HR.out⟩
set_option maxHeartbeats 1000000 in
set_option maxRecDepth 100000 in
theorem forget_dur (E C : Nat) (s b : Int) (W Dm : Nat) (tb : Value) (q a u o : Int) (hs : List Value) (fs ds : List FR) (nm : ByteArray) (f g : FR) (w : World) (hE : EngAt w E C s b W Dm tb q a u o hs) (h : MF w W fs) (hd : MF w Dm ds) (hl : lookF nm fs = some f) (hld : lookF nm ds = some g) (hq : g.lid = f.lid) :
    Calls Tryz.prog 50 #[.pointer (some ⟨E, 0, none⟩), .string nm] w fun e w' => (∃ v, e = .returned v) ∧ MF w' W (dropF nm fs) ∧ Kept (fun g => g = W) w w' := by
  have c8 := hE.c8
  have c9 := hE.c9
  have hlE := hE.lt
  have HFN : Hid (Calls Tryz.prog 84 #[.agg #[.map (some W)], .string nm] w fun e w' => e = .returned (.tuple #[.agg #[.int .i64 f.lid, .string f.nm, .int .i64 f.sz, .slice f.la f.ln f.lc], .bool true]) ∧ Below w.heap.size w w') := (findF_any W fs nm (some f) w h hl).mono fun e w' h => h
  have HHO : Hid (∀ V, Below w.heap.size w V → Calls Tryz.prog 86 #[.pointer (some ⟨E, 9, none⟩), .agg #[.int .i64 f.lid, .string f.nm, .int .i64 f.sz, .slice f.la f.ln f.lc]] V fun e w' => e = .returned (.bool true) ∧ Below w.heap.size w w') := fun V hV => (holdsF_yes E Dm ds f g V ((hV.cell hlE).trans c9) (hd.kd (S := fun _ => False) (Kd.of_below hV) id) (by rw [lookF_nm hl]; exact hld) hq).mono fun e w' ⟨h1, h2⟩ => ⟨h1, hV.trans (h2.mono hV.size)⟩
  have HDR : Hid (∀ V, Below w.heap.size w V → Calls Tryz.prog 88 #[.pointer (some ⟨E, 8, none⟩), .string nm] V fun e w' => (∃ v, e = .returned v) ∧ MF w' W (dropF nm fs) ∧ Kept (fun g => g = W) w w') := fun V hV => (dropF_any E W fs nm V ((hV.cell hlE).trans c8) (h.kd (S := fun _ => False) (Kd.of_below hV) id)).mono fun e w' ⟨h1, h2, h3⟩ => ⟨h1, h2, (Kept.of_below hV _).trans h3⟩
  clear hE h hd hl hld hq
  go_enter Tryz.func50, Tryz.ntmps50
  go_wp2_with fail
  refine HFN.out.mono ?_
  rintro e w1 ⟨rfl, hb1⟩
  have HB1 := Lib.hid hb1
  have l1 := hb1.size
  clear hb1 HFN
  have c8b : w1.cell? ⟨E, 8, none⟩ = some (.map (some W)) := (HB1.out.cell hlE).trans c8
  have c9b : w1.cell? ⟨E, 9, none⟩ = some (.map (some Dm)) := (HB1.out.cell hlE).trans c9
  have hlE1 : E < w1.heap.size := by omega
  go_wp2_with fail
  go_region_law (first
    | (go_simp; go_at_call 86; refine (HHO.out _ (by have hb := HB1.out; repeat' (first | with_reducible refine Below.setCell ?_ ?_ _ | with_reducible refine Below.alloc ?_ ?_ _ | with_reducible refine Below.drew ?_ | with_reducible refine below_drewN ?_ _ | with_reducible assumption | with_reducible exact Below.refl _ _ | (simp; done) | (simp; omega) | omega))).mono ?_; rintro e w3 ⟨rfl, hb3⟩; have HB3 := Lib.hid hb3; have c8c : w3.cell? ⟨E, 8, none⟩ = some (.map (some W)) := (hb3.cell hlE).trans c8; clear hb3))
  all_goals
    go_wp2_with fail
    refine (HDR.out _ (by have hb := HB3.out; repeat' (first | with_reducible refine Below.setCell ?_ ?_ _ | with_reducible refine Below.alloc ?_ ?_ _ | with_reducible refine Below.drew ?_ | with_reducible refine below_drewN ?_ _ | with_reducible assumption | with_reducible exact Below.refl _ _ | (simp; done) | (simp; omega) | omega))).mono ?_
    rintro e w4 ⟨⟨v, rfl⟩, hr⟩
    have HR := Lib.hid hr
    clear hr HDR HHO
    go_wp2
    go_end0
    exact ⟨⟨_, rfl⟩, HR.out⟩
end Go.Proofs.YtonpdbajoidigaaGreatDoor

/-
  FnSpace: the blocks of a file, one behind the other.
-/
namespace Go.Proofs.YtonpdbajoidigaaGreatDoor
open Go.RowKit
set_option linter.unusedSimpArgs false
set_option linter.unusedVariables false

/-- A string that is long enough, copied over a row of 64. -/
theorem run_copy_64 {P : Program} (w : World) (dT sT ty elem : TypeId) (g dCap : Nat) (s : ByteArray) (cur : Array Value) (t : TypeId)
    (hu : P.underlying dT = some (.slice elem)) (hs : (P.info? elem).map (·.size) = some 1) (hg : w.heap[g]? = some (.cells cur t (0, 0))) (hle : 64 ≤ s.size) (hfit : cur.size = 64) :
    (Builtin.copy_ #[dT, sT] ty #[.slice (some ⟨g, 0, none⟩) 64 dCap, .string s]).run P w = .ok (goInt 64) (w.setRow g (Lib.byteCells (s.data.toList.take 64)).toArray) := by
  have hsz : s.data.toList.length = s.size := by rw [Array.length_toList]; rfl
  have hlen : (Lib.byteCells (s.data.toList.take 64)).length = 64 := by rw [Lib.byteCells, List.length_map, List.length_take]; omega
  have hst := run_storeCells_at P g 0 t (Lib.byteCells (s.data.toList.take 64)) 0 cur w hg (by rw [hlen]; omega) (Lib.byteCells_one _)
  have hmin : Nat.min s.size 64 = 64 := Nat.min_eq_right hle
  have htk : List.take 64 (List.map (fun b : UInt8 => Value.int IntKind.u8 (b.toNat : Int)) s.data.toList) = Lib.byteCells (s.data.toList.take 64) := by rw [← List.map_take]; rfl
  rw [hlen] at hst
  simp only [Nat.add_zero, List.take_zero, List.nil_append] at hst
  rw [List.drop_of_length_le (by rw [Array.length_toList]; omega), List.append_nil] at hst
  cases hq : P.info? elem with
  | none => simp [hq] at hs
  | some i =>
    simp [Builtin.copy_, run_underlying hu, Builtin.lenOf, Builtin.firstCells, sizeOf, typeInfo, hq, hmin]
    rw [htk, hst]
    simp [Result.andThen]
/-- A block of a file's data. -/
def chB (dt : ByteArray) (i : Nat) : List Int := ((dt.data.toList.drop (64 * i)).take 64).map fun x => (x.toNat : Int)
theorem chB_len {dt : ByteArray} {i : Nat} (h : 64 * i + 64 ≤ dt.size) : (chB dt i).length = 64 := by
  have hsz : dt.data.toList.length = dt.size := by rw [Array.length_toList]; rfl
  unfold chB
  rw [List.length_map, List.length_take, List.length_drop]
  omega
theorem chB_cells (dt : ByteArray) (i : Nat) : Lib.byteCells ((dt.data.toList.drop (64 * i)).take 64) = u8s (chB dt i) := by
  unfold Lib.byteCells u8s chB
  rw [List.map_map]
  rfl
def lidK (ls : List Int) (j : Nat) : Nat := (ls[j]?.getD 0).toNat - 1
/-- Behind k blocks of a file, at the lids of ls. -/
structure SFI (L b : Int) (S n k : Nat) (ls : List Int) (X : Nat → List Int) (es0 es : List (Int × Bool)) (rd0 rd : Int → List Int) (F0 : Int) (a u : Int) : Prop where
  inv : TInv L b S n es a u
  room : F0 - k ≤ frS (segL L b es S n) a u b S
  live : liveN es n = liveN es0 n + k
  rest : ∀ i, i < n → (∀ j, j < k → i ≠ lidK ls j) → eA es i = eA es0 i
  at' : ∀ j, j < k → L ≤ eA es (lidK ls j) ∧ rd (eA es (lidK ls j)) = X j
/-- Lids that are free, each another. -/
structure Lids (n : Nat) (es : List (Int × Bool)) (ls : List Int) : Prop where
  low : ∀ j, j < ls.length → 1 ≤ (ls[j]?.getD 0) ∧ (ls[j]?.getD 0) ≤ (n : Int)
  free : ∀ j, j < ls.length → eA es (lidK ls j) = 0
  diff : ∀ i j, i < ls.length → j < ls.length → i ≠ j → lidK ls i ≠ lidK ls j
theorem SFI.start {L b : Int} {S n : Nat} {ls : List Int} {X : Nat → List Int} {es : List (Int × Bool)} {rd : Int → List Int} {F0 a u : Int} (h : TInv L b S n es a u) (hF : F0 ≤ frS (segL L b es S n) a u b S) : SFI L b S n 0 ls X es es rd rd F0 a u :=
  ⟨h, by simpa using hF, rfl, fun _ _ _ => rfl, fun j hj => absurd hj (Nat.not_lt_zero _)⟩
theorem SFI.free {L b : Int} {S n k : Nat} {ls : List Int} {X : Nat → List Int} {es0 es : List (Int × Bool)} {rd0 rd : Int → List Int} {F0 a u : Int} (h : SFI L b S n k ls X es0 es rd0 rd F0 a u) (hl : Lids n es0 ls) (hk : k < ls.length) : eA es (lidK ls k) = 0 := by
  have h1 := hl.low k hk
  have hlt : lidK ls k < n := by unfold lidK; omega
  rw [h.rest _ hlt (fun j hj => hl.diff k j hk (by omega) (by omega))]
  exact hl.free k hk
theorem SFI.step {L b : Int} {S n k : Nat} {ls : List Int} {X : Nat → List Int} {es0 es : List (Int × Bool)} {rd0 rd : Int → List Int} {F0 a u : Int} (h : SFI L b S n k ls X es0 es rd0 rd F0 a u) (hl : Lids n es0 ls) (hk : k < ls.length) {j : Nat} {v : Int} {ino : Bool} (hL : 1 ≤ L) (hb : 0 < b) (hj : j < S) (hv0 : 0 ≤ v) (hv1 : v < b)
    (hfr : ∀ i, i < n → eA es i ≠ L + (j : Int) * b + v) (hI : TInv L b S n (es.set (lidK ls k) (L + (j : Int) * b + v, ino)) (j : Int) (v + 1)) (hF : frS (segL L b es S n) a u b S - 1 ≤ frS (segL L b (es.set (lidK ls k) (L + (j : Int) * b + v, ino)) S n) (j : Int) (v + 1) b S) :
    SFI L b S n (k + 1) ls X es0 (es.set (lidK ls k) (L + (j : Int) * b + v, ino)) rd0 (updR rd (L + (j : Int) * b + v) (X k)) F0 (j : Int) (v + 1) := by
  have h1 := hl.low k hk
  have hlt : lidK ls k < n := by unfold lidK; omega
  have hset : ∀ i, eA (es.set (lidK ls k) (L + (j : Int) * b + v, ino)) i = if i = lidK ls k then L + (j : Int) * b + v else eA es i := fun i => eA_set es (lidK ls k) i _ _ (by rw [h.inv.len]; exact hlt)
  have hpos : 0 ≤ (j : Int) * b := Int.mul_nonneg (by omega) (by omega)
  refine ⟨hI, by have := h.room; omega, ?_, fun i hi hne => ?_, fun i hi => ?_⟩
  · rw [live_set h.inv.len hlt (h.free hl hk) (by omega), h.live]; omega
  · rw [hset, if_neg (hne k (by omega))]
    exact h.rest i hi (fun j' hj' => hne j' (by omega))
  · rw [hset]
    by_cases e : i = k
    · subst e
      rw [if_pos rfl]
      exact ⟨by omega, by rw [updR, if_pos rfl]⟩
    · have hik : i < k := by omega
      have h2 := hl.low i (by omega)
      have hlti : lidK ls i < n := by unfold lidK; omega
      rw [if_neg (hl.diff i k (by omega) hk e)]
      obtain ⟨q1, q2⟩ := h.at' i hik
      exact ⟨q1, by rw [updR, if_neg (hfr _ hlti)]; exact q2⟩
end Go.Proofs.YtonpdbajoidigaaGreatDoor

/-
  FnSpace: free lids.
-/
namespace Go.Proofs.YtonpdbajoidigaaGreatDoor
open Go.RowKit
set_option linter.unusedSimpArgs false
set_option linter.unusedVariables false

theorem freeL_mem {es : List (Int × Bool)} {n : Nat} {x : Int} (h : x ∈ freeL es n) : ∃ i : Nat, i < n ∧ x = (i : Int) + 1 ∧ eA es i = 0 := by
  unfold freeL at h
  obtain ⟨i, hi, rfl⟩ := List.mem_map.1 h
  have := List.mem_filter.1 hi
  exact ⟨i, List.mem_range.1 this.1, rfl, by simpa using this.2⟩
theorem freeL_pair (es : List (Int × Bool)) (n : Nat) : (freeL es n).Pairwise (fun x y => x < y) := by
  unfold freeL
  rw [List.pairwise_map]
  refine List.Pairwise.imp (R := fun a b : Nat => a < b) (fun {a b} h => by omega) ?_
  exact List.Pairwise.filter _ List.pairwise_lt_range
theorem live_free (es : List (Int × Bool)) : ∀ n : Nat, liveN es n + (freeL es n).length = n := by
  intro n
  induction n with
  | zero => rfl
  | succ n ih =>
    rw [liveN_succ]
    by_cases h : eA es n = 0
    · rw [freeL_yes h, if_pos h, List.length_append]; simp; omega
    · rw [freeL_no h, if_neg h]; omega
theorem lids_of {es : List (Int × Bool)} {n m : Nat} (hm : m ≤ (freeL es n).length) : Lids n es ((freeL es n).take m) ∧ ((freeL es n).take m).length = m := by
  have hlen : ((freeL es n).take m).length = m := by rw [List.length_take]; omega
  have hat : ∀ j, j < ((freeL es n).take m).length → ∃ i : Nat, i < n ∧ ((freeL es n).take m)[j]?.getD 0 = (i : Int) + 1 ∧ eA es i = 0 := fun j hj => by
    rw [List.getElem?_eq_getElem hj]
    exact freeL_mem (List.mem_of_mem_take (List.getElem_mem hj))
  refine ⟨⟨fun j hj => ?_, fun j hj => ?_, fun i j hi hj hne => ?_⟩, hlen⟩
  · obtain ⟨i, hi, e, _⟩ := hat j hj
    rw [e]; omega
  · obtain ⟨i, hi, e, h0⟩ := hat j hj
    unfold lidK
    rw [e, show ((i : Int) + 1).toNat - 1 = i by omega]
    exact h0
  · have hp : ((freeL es n).take m).Pairwise (fun x y => x < y) := (freeL_pair es n).sublist (List.take_sublist _ _)
    have hlt : ∀ i j (hi : i < ((freeL es n).take m).length) (hj : j < ((freeL es n).take m).length), i < j → ((freeL es n).take m)[i]?.getD 0 < ((freeL es n).take m)[j]?.getD 0 := fun i j hi hj h => by
      rw [List.getElem?_eq_getElem hi, List.getElem?_eq_getElem hj]
      exact List.pairwise_iff_getElem.1 hp i j hi hj h
    obtain ⟨x, _, ex, _⟩ := hat i hi
    obtain ⟨y, _, ey, _⟩ := hat j hj
    unfold lidK
    rcases Nat.lt_or_gt_of_ne hne with h | h
    · have := hlt i j hi hj h
      rw [ex, ey] at this ⊢
      omega
    · have := hlt j i hj hi h
      rw [ex, ey] at this ⊢
      omega
theorem freeR_take {es : List (Int × Bool)} {n m : Nat} (hm : m ≤ (freeL es n).length) : freeR es n (m : Int) = (freeL es n).take m := by
  unfold freeR
  rw [if_pos (by omega)]
  rfl
end Go.Proofs.YtonpdbajoidigaaGreatDoor
