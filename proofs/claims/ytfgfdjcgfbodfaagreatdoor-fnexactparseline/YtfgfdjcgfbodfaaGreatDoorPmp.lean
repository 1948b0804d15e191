/-
  A map of parsers: its entries, an entry more, a look.
-/
import Derived.Test.YtfgfdjcgfbodfaaGreatDoorPpe
import Derived.WideMake
import Derived.MapKept
namespace Go.Proofs.YtfgfdjcgfbodfaaGreatDoor
open Go.RowKit
set_option linter.unusedSimpArgs false
set_option linter.unusedVariables false

def MAt (w : World) (r : Nat) (es : List (List UInt8 × Value)) : Prop :=
  ∃ arr clock, w.heap[r]? = some (.map arr clock) ∧ arr.toList.map (fun x : MapEntry => (x.key, x.val)) = es.map (fun p => (Value.string ⟨p.1.toArray⟩, p.2))
def lookL (s : List UInt8) : List (List UInt8 × Value) → Option Value
  | [] => none
  | p :: r => if s = p.1 then some p.2 else lookL s r
theorem MAt.below {w w' : World} {r B : Nat} {es : List (List UInt8 × Value)} (h : MAt w r es) (hb : Below B w w') (hr : r < B) : MAt w' r es := by
  obtain ⟨arr, clock, h1, h2⟩ := h
  exact ⟨arr, clock, (hb.block r hr).trans h1, h2⟩
theorem MAt.lt {w : World} {r : Nat} {es : List (List UInt8 × Value)} (h : MAt w r es) : r < w.heap.size := by
  obtain ⟨arr, clock, h1, h2⟩ := h
  exact (Array.getElem?_eq_some_iff.1 h1).1
theorem find_look (s : ByteArray) : ∀ (l : List MapEntry) (es : List (List UInt8 × Value)) (i : Nat), l.map (fun x : MapEntry => (x.key, x.val)) = es.map (fun p => (Value.string ⟨p.1.toArray⟩, p.2)) →
    ∃ o, Instr.findNow .string (.string s) l i = some o ∧ o.map (·.2) = lookL s.data.toList es
  | [], [], i, _ => ⟨none, rfl, rfl⟩
  | [], _ :: _, _, h => by simp at h
  | _ :: _, [], _, h => by simp at h
  | e :: l, p :: es, i, h => by
    simp only [List.map_cons, List.cons.injEq, Prod.mk.injEq] at h
    obtain ⟨⟨hk, hv⟩, ht⟩ := h
    by_cases hs : s.data.toList = p.1
    · refine ⟨some (i, e.val), ?_, ?_⟩
      · have hb : (s == (⟨p.1.toArray⟩ : ByteArray)) = true := (MapKept.bytes_beq _ _).2 (by rw [← hs, Array.toArray_toList])
        simp only [Instr.findNow, hk, Instr.sameNow, hb]
      · rw [lookL, if_pos hs]; exact congrArg some hv
    · obtain ⟨o, h1, h2⟩ := find_look s l es (i + 1) ht
      refine ⟨o, ?_, by rw [lookL, if_neg hs]; exact h2⟩
      have hb : (s == (⟨p.1.toArray⟩ : ByteArray)) = false := by
        rw [Bool.eq_false_iff]
        intro h
        have := (MapKept.bytes_beq _ _).1 h
        apply hs
        rw [this]
      simp only [Instr.findNow, hk, Instr.sameNow, hb]
      exact h1
theorem map_new (w : World) : ∃ W, (Instr.makeMap 45 none).run Tryz.prog w = .ok (.map (some w.heap.size)) W ∧ MAt W w.heap.size [] ∧ Below w.heap.size w W :=
  ⟨_, run_makeMap_plain w _, ⟨#[], 0, (MapKept.heap_alloc w _).1, rfl⟩, (Below.refl _ _).alloc (Nat.le_refl _) _⟩
theorem below_map {w : World} {r B : Nat} (h : B ≤ r) (o : Obj) : Below B w { w with heap := w.heap.setIfInBounds r o } :=
  ⟨rfl, rfl, rfl, by simp, fun k hk => by simp [show ¬ r = k by omega]⟩
theorem map_ins {w : World} {r : Nat} {es : List (List UInt8 × Value)} (h : MAt w r es) (key : List UInt8) (val : Value) (hn : lookL key es = none) :
    ∃ W, (Instr.mapUpdate 45 (.map (some r)) (.string ⟨key.toArray⟩) val).run Tryz.prog w = .ok () W ∧ MAt W r (es ++ [(key, val)]) ∧ (∀ B, B ≤ r → Below B w W) ∧ ∀ b, b ≠ r → W.heap[b]? = w.heap[b]? := by
  have hr := h.lt
  obtain ⟨arr, clock, h1, h2⟩ := h
  obtain ⟨o, hf, ho⟩ := find_look ⟨key.toArray⟩ arr.toList es 0 h2
  have ho' : o = none := by
    have : o.map (·.2) = none := by rw [ho]; simpa using hn
    simpa using this
  subst ho'
  have hc : (Instr.checkKey false 10000 9 (.string ⟨key.toArray⟩)).run Tryz.prog w = .ok () w := MapKept.run_checkKey (k := .string ⟨key.toArray⟩) Tryz.underlying9 (by simp [MapKept.IsKey]) false 9999
  refine ⟨{ w with heap := w.heap.setIfInBounds r (.map (arr.push { key := .string ⟨key.toArray⟩, val := val, born := clock }) (clock + 1)) }, ?_, ⟨_, _, (MapKept.heap_set h1).1, ?_⟩, fun B hB => below_map hB _, fun b hb => (MapKept.heap_set h1).2 b hb⟩
  · simp only [Instr.mapUpdate, Sem.run_bind, run_underlying Tryz.underlying45, MapKept.run_getObj_map h1, hc, MapKept.run_findKey Tryz.underlying9 hf, MapKept.run_setObj_map _ h1, Result.andThen]
  · simp [h2]
theorem kp_ins {w W : World} {r p : Nat} {es : List (List UInt8 × Value)} {c : Array Value} {t : TypeId} {m : Nat × Nat} (h : MAt w r es) (k : ∀ b, b ≠ r → W.heap[b]? = w.heap[b]?) (hp : w.heap[p]? = some (.cells c t m)) : W.heap[p]? = some (.cells c t m) := by
  refine (k p (fun e => ?_)).trans hp
  obtain ⟨arr, clock, h1, _⟩ := h
  rw [e, h1] at hp
  cases hp
theorem kp_call {w W : World} {p : Nat} {o : Obj} (hb : Below w.heap.size w W) (hp : w.heap[p]? = some o) : W.heap[p]? = some o := (hb.block p (Array.getElem?_eq_some_iff.1 hp).1).trans hp
theorem map_look {w : World} {r : Nat} {es : List (List UInt8 × Value)} (h : MAt w r es) (s : ByteArray) (o : Option Value) (ho : lookL s.data.toList es = o) :
    (Instr.lookup 45 (.map (some r)) (.string s) true).run Tryz.prog w = .ok (.tuple #[o.getD .nilFunc, .bool o.isSome]) w := by
  obtain ⟨arr, clock, h1, h2⟩ := h
  obtain ⟨o', hf, ho'⟩ := find_look s arr.toList es 0 h2
  rw [ho] at ho'
  have hc : (Instr.checkKey arr.isEmpty 10000 9 (.string s)).run Tryz.prog w = .ok () w := MapKept.run_checkKey (k := .string s) Tryz.underlying9 (by simp [MapKept.IsKey]) _ 9999
  have hz : (zeroValue 43).run Tryz.prog w = .ok .nilFunc w := by simp [go_sem]
  cases o' with
  | none =>
    subst ho'
    simp [Instr.lookup, run_underlying Tryz.underlying45, MapKept.run_getObj_map h1, hc, MapKept.run_findKey Tryz.underlying9 hf, hz, Result.andThen]
  | some x =>
    subst ho'
    simp [Instr.lookup, run_underlying Tryz.underlying45, MapKept.run_getObj_map h1, hc, MapKept.run_findKey Tryz.underlying9 hf, Result.andThen]
end Go.Proofs.YtfgfdjcgfbodfaaGreatDoor
