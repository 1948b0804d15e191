/-
  The parsers that are closures; what a parser is.
-/
import Derived.Test.YtfgfdjcgfbodfaaGreatDoorPit
import Derived.Test.YtfgfdjcgfbodfaaGreatDoorPmp
namespace Go.Proofs.YtfgfdjcgfbodfaaGreatDoor
open Go.RowKit
set_option linter.unusedSimpArgs false
set_option linter.unusedVariables false

theorem named_any (k : Int) (w : World) :
    Calls Tryz.prog 30 #[.int .i64 k] w fun e w' => ∃ p, e = .returned (.func (.func 42) #[] #[.pointer (some ⟨p, 0, none⟩)]) ∧ w'.heap[p]? = some (.cells #[.int .i64 k] 2 (0, 0)) ∧ Below w.heap.size w w' := by
  go_enter Tryz.func30, Tryz.ntmps30
  go_wp2
  go_ret
  exact ⟨_, rfl, heap_alloc_new w _, (Below.refl _ _).alloc (Nat.le_refl _) _⟩
theorem bareLine_any (k ck : Int) (w : World) :
    Calls Tryz.prog 33 #[.agg #[.int .i64 k, .int .i64 ck, .string ⟨#[]⟩, .string ⟨#[]⟩, .int .i64 0, .slice none 0 0]] w fun e w' => ∃ p, e = .returned (.func (.func 43) #[] #[.pointer (some ⟨p, 0, none⟩)]) ∧ w'.heap[p]? = some (.cells #[.int .i64 k, .int .i64 ck, .string ⟨#[]⟩, .string ⟨#[]⟩, .int .i64 0, .slice none 0 0] 27 (0, 0)) ∧ Below w.heap.size w w' := by
  go_enter Tryz.func33, Tryz.ntmps33
  go_wp2
  go_ret
  exact ⟨_, rfl, heap_alloc_new w _, (Below.refl _ _).alloc (Nat.le_refl _) _⟩
theorem bareCall_any (ck : Int) (w : World) :
    Calls Tryz.prog 32 #[.int .i64 ck] w fun e w' => ∃ p, e = .returned (.func (.func 43) #[] #[.pointer (some ⟨p, 0, none⟩)]) ∧ w'.heap[p]? = some (.cells #[.int .i64 1, .int .i64 ck, .string ⟨#[]⟩, .string ⟨#[]⟩, .int .i64 0, .slice none 0 0] 27 (0, 0)) ∧ Below w.heap.size w w' := by
  go_enter Tryz.func32, Tryz.ntmps32
  go_wp2_with fail
  refine (bareLine_any _ _ _).mono ?_
  rintro e w1 ⟨p, rfl, hp, hb⟩
  go_wp2
  go_ret
  exact ⟨_, rfl, hp, hb⟩
set_option maxHeartbeats 4000000 in
theorem named1_any (k : Int) (p : Nat) (a : Option Addr) (n c : Nat) (ss : List ByteArray) (w : World) (hp : w.cell? ⟨p, 0, none⟩ = some (.int .i64 k)) (hs : SRow w a n ss) :
    Calls Tryz.prog 42 #[.slice a n c, .pointer (some ⟨p, 0, none⟩)] w fun e w' => LAns w w' e (namedOf k ss) := by
  have hpb : p < w.heap.size := World.block_lt_of_cell? w _ hp
  by_cases hn : n = 1
  · subst hn
    obtain ⟨s, rfl⟩ : ∃ s, ss = [s] := List.length_eq_one_iff.1 hs.1
    rcases hs.2 with h | ⟨g, off, rfl, hc⟩
    · omega
    have h0 : w.cell? ⟨g, off, none⟩ = some (.string s) := hc 0 (by omega)
    have hgb : g < w.heap.size := World.block_lt_of_cell? w _ h0
    clear hc hs
    have HL : Hid (namedOf k [s] = .call k s ⟨#[]⟩ 0) := rfl
    generalize namedOf k [s] = T at *
    obtain ⟨W0, hW0, HS⟩ := line_world w
    have dp : W0.cell? ⟨p, 0, none⟩ = some (.int .i64 k) := (HS.out.1.cell hpb).trans hp
    have d0 : W0.cell? ⟨g, off, none⟩ = some (.string s) := (HS.out.1.cell hgb).trans h0
    have hB := HS.out.1
    obtain ⟨⟨x0, x1, x2, x3, x4, x5⟩, f0, f1, f2, f3, f4, f5⟩ := six_of HS.out.2.1
    clear HS h0 hp
    go_enter Tryz.func42, Tryz.ntmps42
    go_wp2
    go_region
    all_goals
      go_wp2
      rw [HL.out]
      refine bodyPost_ret (v := lnV (.call k s ⟨#[]⟩ 0) (.slice none 0 0)) (by simp [results, Tryz.results42, go_sem, x0, x1, x2, x3, x4, x5, lnV, LN.call]) rfl ?_
      refine ⟨_, rfl, World.ownsRow_nil _ _ _ _, ?_⟩
      repeat' (first | with_reducible refine Below.setCell ?_ ?_ _ | with_reducible refine Below.alloc ?_ ?_ _ | with_reducible refine Below.drew ?_ | with_reducible assumption | with_reducible exact Below.refl _ _ | (simp; done) | (simp; omega) | omega)
  · have hn' : ((n : Int) != 1) = true := by simp; omega
    have HL : Hid (namedOf k ss = .bad) := by
      show _ = _
      match ss, hs.1 with
      | [], _ => rfl
      | [_], h => exact absurd h.symm hn
      | _ :: _ :: _, _ => rfl
    generalize namedOf k ss = T at *
    clear hs
    go_enter Tryz.func42, Tryz.ntmps42
    go_wp2
    rw [HL.out]
    refine bodyPost_ret (v := lnV .bad (.slice none 0 0)) (by simp [results, Tryz.results42, go_sem, lnV, LN.bad]) rfl ?_
    refine ⟨_, rfl, World.ownsRow_nil _ _ _ _, ?_⟩
    repeat' (first | with_reducible refine Below.setCell ?_ ?_ _ | with_reducible refine Below.alloc ?_ ?_ _ | with_reducible refine Below.drew ?_ | with_reducible assumption | with_reducible exact Below.refl _ _ | (simp; done) | (simp; omega) | omega)
set_option maxHeartbeats 4000000 in
theorem bare1_any (k ck : Int) (p : Nat) (a : Option Addr) (n c : Nat) (ss : List ByteArray) (w : World) (hp : w.heap[p]? = some (.cells #[.int .i64 k, .int .i64 ck, .string ⟨#[]⟩, .string ⟨#[]⟩, .int .i64 0, .slice none 0 0] 27 (0, 0))) (hs : SRow w a n ss) :
    Calls Tryz.prog 43 #[.slice a n c, .pointer (some ⟨p, 0, none⟩)] w fun e w' => LAns w w' e (bareOf ⟨k, ck, ⟨#[]⟩, ⟨#[]⟩, 0, []⟩ ss) := by
  have hpb : p < w.heap.size := (Array.getElem?_eq_some_iff.1 hp).1
  obtain ⟨⟨x0, x1, x2, x3, x4, x5⟩, f0, f1, f2, f3, f4, f5⟩ := six_of hp
  by_cases hn : n = 0
  · subst hn
    obtain rfl : ss = [] := List.length_eq_zero_iff.1 hs.1
    clear hs hp
    have HL : Hid (bareOf ⟨k, ck, ⟨#[]⟩, ⟨#[]⟩, 0, []⟩ [] = ⟨k, ck, ⟨#[]⟩, ⟨#[]⟩, 0, []⟩) := rfl
    generalize bareOf ⟨k, ck, ⟨#[]⟩, ⟨#[]⟩, 0, []⟩ [] = T at *
    go_enter Tryz.func43, Tryz.ntmps43
    go_wp2
    rw [HL.out]
    refine bodyPost_ret (v := lnV ⟨k, ck, ⟨#[]⟩, ⟨#[]⟩, 0, []⟩ (.slice none 0 0)) (by simp [results, Tryz.results43, go_sem, lnV]) rfl ?_
    refine ⟨_, rfl, World.ownsRow_nil _ _ _ _, ?_⟩
    repeat' (first | with_reducible refine Below.setCell ?_ ?_ _ | with_reducible refine Below.alloc ?_ ?_ _ | with_reducible refine Below.drew ?_ | with_reducible assumption | with_reducible exact Below.refl _ _ | (simp; done) | (simp; omega) | omega)
  · have hn' : ((n : Int) != 0) = true := by simp; omega
    have HL : Hid (bareOf ⟨k, ck, ⟨#[]⟩, ⟨#[]⟩, 0, []⟩ ss = .bad) := by
      show _ = _
      match ss, hs.1 with
      | [], h => exact absurd h.symm hn
      | _ :: _, _ => rfl
    generalize bareOf ⟨k, ck, ⟨#[]⟩, ⟨#[]⟩, 0, []⟩ ss = T at *
    clear hs hp
    go_enter Tryz.func43, Tryz.ntmps43
    go_wp2
    rw [HL.out]
    refine bodyPost_ret (v := lnV .bad (.slice none 0 0)) (by simp [results, Tryz.results43, go_sem, lnV, LN.bad]) rfl ?_
    refine ⟨_, rfl, World.ownsRow_nil _ _ _ _, ?_⟩
    repeat' (first | with_reducible refine Below.setCell ?_ ?_ _ | with_reducible refine Below.alloc ?_ ?_ _ | with_reducible refine Below.drew ?_ | with_reducible assumption | with_reducible exact Below.refl _ _ | (simp; done) | (simp; omega) | omega)
/-- Fields as a parser takes them. -/
def FRw (w : World) (a : Option Addr) (n c : Nat) (ss : List ByteArray) : Prop := SRow w a n ss ∧ n ≤ c ∧ c ≤ 9223372036854775807 ∧ n ≤ 1048576 ∧ ∀ i, i < n → (sAt ss i).size ≤ 1048576
/-- A value that makes that line of them, from this world on. -/
def Prs (w : World) (v : Value) (f : List ByteArray → LN) : Prop := ∃ (F : FuncId) (caps : Array Value), v = .func (.func F) #[] caps ∧ (∀ args W, (callFunc F args).run Tryz.prog W = .ok (.enter F args) W) ∧ ∀ W, Below w.heap.size w W → ∀ a n c ss, FRw W a n c ss → Calls Tryz.prog F (#[.slice a n c] ++ caps) W fun e w' => LAns W w' e (f ss)
theorem Prs.below {w w' : World} {v : Value} {f : List ByteArray → LN} (h : Prs w v f) (hb : Below w.heap.size w w') : Prs w' v f := by
  obtain ⟨F, caps, h1, h2, h3⟩ := h
  exact ⟨F, caps, h1, h2, fun W hW => h3 W (hb.trans (hW.mono hb.size))⟩
theorem call_write (args : Array Value) (W : World) : (callFunc 28 args).run Tryz.prog W = .ok (.enter 28 args) W := by simp [go_sem]
theorem call_fill (args : Array Value) (W : World) : (callFunc 29 args).run Tryz.prog W = .ok (.enter 29 args) W := by simp [go_sem]
theorem call_trunc (args : Array Value) (W : World) : (callFunc 31 args).run Tryz.prog W = .ok (.enter 31 args) W := by simp [go_sem]
theorem call_arm (args : Array Value) (W : World) : (callFunc 34 args).run Tryz.prog W = .ok (.enter 34 args) W := by simp [go_sem]
theorem call_crash (args : Array Value) (W : World) : (callFunc 35 args).run Tryz.prog W = .ok (.enter 35 args) W := by simp [go_sem]
theorem call_flip (args : Array Value) (W : World) : (callFunc 36 args).run Tryz.prog W = .ok (.enter 36 args) W := by simp [go_sem]
theorem call_named (args : Array Value) (W : World) : (callFunc 42 args).run Tryz.prog W = .ok (.enter 42 args) W := by simp [go_sem]
theorem call_bare (args : Array Value) (W : World) : (callFunc 43 args).run Tryz.prog W = .ok (.enter 43 args) W := by simp [go_sem]
theorem prs_write (w : World) : Prs w (.func (.func 28) #[] #[]) writeOf :=
  ⟨_, _, rfl, call_write, fun W _ a n c ss h => by
    by_cases hn : n = 2
    · subst hn
      obtain ⟨s, b, rfl⟩ : ∃ s b, ss = [s, b] := by
        have hl := h.1.1
        match ss, hl with
        | [s, b], _ => exact ⟨s, b, rfl⟩
      rcases h.1.2 with h' | ⟨g, off, rfl, hc⟩
      · omega
      exact parseWrite_two g off c s b W (hc 0 (by omega)) (hc 1 (by omega))
    · have hb : writeOf ss = .bad := by
        match ss, h.1.1 with
        | [], _ => rfl
        | [_], _ => rfl
        | [_, _], h => exact absurd h.symm hn
        | _ :: _ :: _ :: _, _ => rfl
      rw [hb]
      exact parseWrite_len a n c W hn⟩
theorem prs_fill (w : World) : Prs w (.func (.func 29) #[] #[]) fillOf :=
  ⟨_, _, rfl, call_fill, fun W _ a n c ss h => by
    match ss, h with
    | [], h =>
      obtain rfl : 0 = n := h.1.1
      exact parseFill_none a c W
    | s :: r, h =>
      obtain ⟨hs, h1, h2, h3, h4⟩ := h
      have hl : r.length + 1 = n := hs.1
      rcases hs.2 with h' | ⟨g, off, rfl, hc⟩
      · omega
      exact parseFill_any g off n r.length c s r W (by omega) (by omega) rfl (hc 0 (by omega)) (fun i hi => by have := hc (i + 1) (by omega); rw [show off + (i + 1) = off + 1 + i by omega] at this; exact this) (fun i hi => h4 (i + 1) (by omega)) h3 h1 h2⟩
theorem prs_trunc (w : World) : Prs w (.func (.func 31) #[] #[]) truncOf :=
  ⟨_, _, rfl, call_trunc, fun W _ a n c ss h => by
    match ss, h with
    | [], h =>
      obtain rfl : 0 = n := h.1.1
      exact parseTrunc_none a c W
    | s :: r, h =>
      obtain ⟨hs, h1, h2, h3, h4⟩ := h
      have hl : r.length + 1 = n := hs.1
      rcases hs.2 with h' | ⟨g, off, rfl, hc⟩
      · omega
      exact parseTrunc_any g off n r.length c s r W (by omega) (by omega) rfl (hc 0 (by omega)) (fun i hi => by have := hc (i + 1) (by omega); rw [show off + (i + 1) = off + 1 + i by omega] at this; exact this) (fun i hi => h4 (i + 1) (by omega)) h3 h1 h2⟩
theorem prs_arm (w : World) : Prs w (.func (.func 34) #[] #[]) armOf :=
  ⟨_, _, rfl, call_arm, fun W _ a n c ss h => parseArm_any a n c ss W h.1 h.2.2.2.2 h.2.2.2.1⟩
theorem prs_crash (w : World) : Prs w (.func (.func 35) #[] #[]) crashOf :=
  ⟨_, _, rfl, call_crash, fun W _ a n c ss h => parseCrash_any a n c ss W h.1 h.2.2.2.2 h.2.2.2.1⟩
theorem prs_flip (w : World) : Prs w (.func (.func 36) #[] #[]) flipOf :=
  ⟨_, _, rfl, call_flip, fun W _ a n c ss h => parseFlip_any a n c ss W h.1 h.2.2.2.2 h.2.2.2.1⟩
theorem prs_named {w : World} {p : Nat} {k : Int} (hp : w.heap[p]? = some (.cells #[.int .i64 k] 2 (0, 0))) : Prs w (.func (.func 42) #[] #[.pointer (some ⟨p, 0, none⟩)]) (namedOf k) :=
  ⟨_, _, rfl, call_named, fun W hW a n c ss h => named1_any k p a n c ss W (by rw [World.cell?, (hW.block p (Array.getElem?_eq_some_iff.1 hp).1).trans hp]; rfl) h.1⟩
theorem prs_bare {w : World} {p : Nat} {k ck : Int} (hp : w.heap[p]? = some (.cells #[.int .i64 k, .int .i64 ck, .string ⟨#[]⟩, .string ⟨#[]⟩, .int .i64 0, .slice none 0 0] 27 (0, 0))) : Prs w (.func (.func 43) #[] #[.pointer (some ⟨p, 0, none⟩)]) (bareOf ⟨k, ck, ⟨#[]⟩, ⟨#[]⟩, 0, []⟩) :=
  ⟨_, _, rfl, call_bare, fun W hW a n c ss h => bare1_any k ck p a n c ss W ((hW.block p (Array.getElem?_eq_some_iff.1 hp).1).trans hp) h.1⟩
end Go.Proofs.YtfgfdjcgfbodfaaGreatDoor
