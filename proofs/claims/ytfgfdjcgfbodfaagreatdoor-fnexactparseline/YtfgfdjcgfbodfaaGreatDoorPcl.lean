/-
  What a line of fields says; the specification's calls.
-/
import Derived.Test.YtfgfdjcgfbodfaaGreatDoorPsm
import Derived.Test.YtfgfdjcgfbodfaaGreatDoorPlf
namespace Go.Proofs.YtfgfdjcgfbodfaaGreatDoor
open Go.RowKit
set_option linter.unusedSimpArgs false
set_option linter.unusedVariables false

abbrev wWrite : List UInt8 := [119, 114, 105, 116, 101]
abbrev wFill : List UInt8 := [102, 105, 108, 108]
abbrev wRead : List UInt8 := [114, 101, 97, 100]
abbrev wTrunc : List UInt8 := [116, 114, 117, 110, 99]
abbrev wList : List UInt8 := [108, 105, 115, 116]
abbrev wSync : List UInt8 := [115, 121, 110, 99]
abbrev wClean : List UInt8 := [99, 108, 101, 97, 110]
abbrev wStat : List UInt8 := [115, 116, 97, 116]
abbrev wMount : List UInt8 := [109, 111, 117, 110, 116]
abbrev wArm : List UInt8 := [97, 114, 109]
abbrev wCrash : List UInt8 := [99, 114, 97, 115, 104]
abbrev wFlip : List UInt8 := [102, 108, 105, 112]
abbrev wDel : List UInt8 := [100, 101, 108]
structure LN where
  k : Int
  ck : Int
  nm : ByteArray
  dt : ByteArray
  sz : Int
  ns : List Int
def LN.bad : LN := ⟨0, 0, ⟨#[]⟩, ⟨#[]⟩, 0, []⟩
def LN.call (ck : Int) (nm dt : ByteArray) (sz : Int) : LN := ⟨1, ck, nm, dt, sz, []⟩
def LN.num (k : Int) (ns : List Int) : LN := ⟨k, 0, ⟨#[]⟩, ⟨#[]⟩, 0, ns⟩
def weq (s : ByteArray) (l : List UInt8) : Bool := s.toList == l
def nAt (ss : List ByteArray) (i : Nat) : Int := numV (sAt ss i).data.toList
def inB (v lo hi : Int) : Bool := decide (lo ≤ v) && decide (v ≤ hi)
def call1 (s : ByteArray) : LN :=
  if weq s wList then .call 5 ⟨#[]⟩ ⟨#[]⟩ 0 else if weq s wSync then .call 6 ⟨#[]⟩ ⟨#[]⟩ 0 else if weq s wClean then .call 7 ⟨#[]⟩ ⟨#[]⟩ 0 else if weq s wStat then .call 8 ⟨#[]⟩ ⟨#[]⟩ 0 else .bad
def call2 (s a : ByteArray) : LN := if weq s wRead then .call 2 a ⟨#[]⟩ 0 else if weq s wDel then .call 4 a ⟨#[]⟩ 0 else .bad
def dash (b : ByteArray) : ByteArray := if weq b [45] then ⟨#[]⟩ else b
def call3 (s a b : ByteArray) : LN := if weq s wWrite then .call 1 a (dash b) 0 else if isNum b.data.toList && weq s wTrunc then .call 3 a ⟨#[]⟩ (numV b.data.toList) else .bad
def fillOk (s : ByteArray) (b c : ByteArray) : Bool := isNum b.data.toList && (isNum c.data.toList && (weq s wFill && (inB (numV b.data.toList) 0 2000 && inB (numV c.data.toList) 0 25)))
def call4 (s a b c : ByteArray) : LN := if fillOk s b c then .call 1 a ⟨(lettersL (numV b.data.toList).toNat (numV c.data.toList).toNat).toArray⟩ 0 else .bad
def callOf : List ByteArray → LN
  | [s] => call1 s
  | [s, a] => call2 s a
  | [s, a, b] => call3 s a b
  | [s, a, b, c] => call4 s a b c
  | _ => .bad
/-- An answer that is such a line, with numbers of its own. -/
def lnV (ln : LN) (v : Value) : Value := .agg #[.int .i64 ln.k, .int .i64 ln.ck, .string ln.nm, .string ln.dt, .int .i64 ln.sz, v]
def LAns (w w' : World) (e : Ending) (ln : LN) : Prop := ∃ v, e = .returned (lnV ln v) ∧ w'.ownsRow w.heap.size 2 1 v ln.ns.length (i64G ln.ns) ∧ Below w.heap.size w w'
theorem six_of {W : World} {r : Nat} {u v x y z q : Value} {t : TypeId} (h : W.heap[r]? = some (.cells #[u, v, x, y, z, q] t (0, 0))) : (W.cell? ⟨r, 0, none⟩ = some u ∧ W.cell? ⟨r, 1, none⟩ = some v ∧ W.cell? ⟨r, 2, none⟩ = some x ∧ W.cell? ⟨r, 3, none⟩ = some y ∧ W.cell? ⟨r, 4, none⟩ = some z ∧ W.cell? ⟨r, 5, none⟩ = some q) ∧ W.frozen? ⟨r, 0, none⟩ = false ∧ W.frozen? ⟨r, 1, none⟩ = false ∧ W.frozen? ⟨r, 2, none⟩ = false ∧ W.frozen? ⟨r, 3, none⟩ = false ∧ W.frozen? ⟨r, 4, none⟩ = false ∧ W.frozen? ⟨r, 5, none⟩ = false := by
  refine ⟨⟨?_, ?_, ?_, ?_, ?_, ?_⟩, ?_, ?_, ?_, ?_, ?_, ?_⟩
  all_goals first | simp [World.cell?, h] | simp [World.frozen?, h]
set_option maxHeartbeats 4000000 in
set_option maxRecDepth 100000 in
theorem callLine_1 (g c : Nat) (s : ByteArray) (w : World) (h0 : w.cell? ⟨g, 0, none⟩ = some (.string s)) :
    Calls Tryz.prog 13 #[.slice (some ⟨g, 0, none⟩) 1 c] w fun e w' => LAns w w' e (call1 s) := by
  have hg := World.block_lt_of_cell? w _ h0
  obtain ⟨b1, e1⟩ : ∃ b, (s.toList == [108, 105, 115, 116]) = b := ⟨_, rfl⟩
  obtain ⟨b2, e2⟩ : ∃ b, (s.toList == [115, 121, 110, 99]) = b := ⟨_, rfl⟩
  obtain ⟨b3, e3⟩ : ∃ b, (s.toList == [99, 108, 101, 97, 110]) = b := ⟨_, rfl⟩
  obtain ⟨b4, e4⟩ : ∃ b, (s.toList == [115, 116, 97, 116]) = b := ⟨_, rfl⟩
  have HC : Hid (call1 s = if b1 = true then .call 5 ⟨#[]⟩ ⟨#[]⟩ 0 else if b2 = true then .call 6 ⟨#[]⟩ ⟨#[]⟩ 0 else if b3 = true then .call 7 ⟨#[]⟩ ⟨#[]⟩ 0 else if b4 = true then .call 8 ⟨#[]⟩ ⟨#[]⟩ 0 else .bad) := by show _ = _; unfold call1 weq; rw [e1, e2, e3, e4]
  generalize call1 s = C at *
  cases b1
  case true =>
    have HL : Hid (C = .call 5 ⟨#[]⟩ ⟨#[]⟩ 0) := HC.out
    clear HC e2 e3 e4
    go_enter Tryz.func13, Tryz.ntmps13
    go_wp2_with fail
    refine (make_any _ _ _ _ _).mono ?_
    rintro e w1 ⟨rfl, hb1⟩
    obtain ⟨⟨x0, x1, x2, x3, x4, x5⟩, f0, f1, f2, f3, f4, f5⟩ := six_of ((hb1.block w.heap.size (by simp)).trans (heap_alloc_new w _))
    have hB : Below w.heap.size w w1 := ((Below.refl _ _).alloc (Nat.le_refl _) _).trans (hb1.mono (by simp))
    clear hb1
    go_wp2
    rw [HL.out]
    refine bodyPost_ret (v := lnV (.call 5 ⟨#[]⟩ ⟨#[]⟩ 0) (.slice none 0 0)) (by simp [results, Tryz.results13, go_sem, x0, x1, x2, x3, x4, x5, lnV, LN.call, LN.bad]) rfl ?_
    refine ⟨_, rfl, World.ownsRow_nil _ _ _ _, ?_⟩
    repeat' (first | with_reducible refine Below.setCell ?_ ?_ _ | with_reducible refine Below.alloc ?_ ?_ _ | with_reducible refine Below.drew ?_ | with_reducible assumption | with_reducible exact Below.refl _ _ | (simp; done) | (simp; omega) | omega)
  cases b2
  case true =>
    have HL : Hid (C = .call 6 ⟨#[]⟩ ⟨#[]⟩ 0) := HC.out
    clear HC e3 e4
    go_enter Tryz.func13, Tryz.ntmps13
    go_wp2_with fail
    refine (make_any _ _ _ _ _).mono ?_
    rintro e w1 ⟨rfl, hb1⟩
    obtain ⟨⟨x0, x1, x2, x3, x4, x5⟩, f0, f1, f2, f3, f4, f5⟩ := six_of ((hb1.block w.heap.size (by simp)).trans (heap_alloc_new w _))
    have hB : Below w.heap.size w w1 := ((Below.refl _ _).alloc (Nat.le_refl _) _).trans (hb1.mono (by simp))
    clear hb1
    go_wp2
    rw [HL.out]
    refine bodyPost_ret (v := lnV (.call 6 ⟨#[]⟩ ⟨#[]⟩ 0) (.slice none 0 0)) (by simp [results, Tryz.results13, go_sem, x0, x1, x2, x3, x4, x5, lnV, LN.call, LN.bad]) rfl ?_
    refine ⟨_, rfl, World.ownsRow_nil _ _ _ _, ?_⟩
    repeat' (first | with_reducible refine Below.setCell ?_ ?_ _ | with_reducible refine Below.alloc ?_ ?_ _ | with_reducible refine Below.drew ?_ | with_reducible assumption | with_reducible exact Below.refl _ _ | (simp; done) | (simp; omega) | omega)
  cases b3
  case true =>
    have HL : Hid (C = .call 7 ⟨#[]⟩ ⟨#[]⟩ 0) := HC.out
    clear HC e4
    go_enter Tryz.func13, Tryz.ntmps13
    go_wp2_with fail
    refine (make_any _ _ _ _ _).mono ?_
    rintro e w1 ⟨rfl, hb1⟩
    obtain ⟨⟨x0, x1, x2, x3, x4, x5⟩, f0, f1, f2, f3, f4, f5⟩ := six_of ((hb1.block w.heap.size (by simp)).trans (heap_alloc_new w _))
    have hB : Below w.heap.size w w1 := ((Below.refl _ _).alloc (Nat.le_refl _) _).trans (hb1.mono (by simp))
    clear hb1
    go_wp2
    rw [HL.out]
    refine bodyPost_ret (v := lnV (.call 7 ⟨#[]⟩ ⟨#[]⟩ 0) (.slice none 0 0)) (by simp [results, Tryz.results13, go_sem, x0, x1, x2, x3, x4, x5, lnV, LN.call, LN.bad]) rfl ?_
    refine ⟨_, rfl, World.ownsRow_nil _ _ _ _, ?_⟩
    repeat' (first | with_reducible refine Below.setCell ?_ ?_ _ | with_reducible refine Below.alloc ?_ ?_ _ | with_reducible refine Below.drew ?_ | with_reducible assumption | with_reducible exact Below.refl _ _ | (simp; done) | (simp; omega) | omega)
  cases b4
  case true =>
    have HL : Hid (C = .call 8 ⟨#[]⟩ ⟨#[]⟩ 0) := HC.out
    clear HC 
    go_enter Tryz.func13, Tryz.ntmps13
    go_wp2_with fail
    refine (make_any _ _ _ _ _).mono ?_
    rintro e w1 ⟨rfl, hb1⟩
    obtain ⟨⟨x0, x1, x2, x3, x4, x5⟩, f0, f1, f2, f3, f4, f5⟩ := six_of ((hb1.block w.heap.size (by simp)).trans (heap_alloc_new w _))
    have hB : Below w.heap.size w w1 := ((Below.refl _ _).alloc (Nat.le_refl _) _).trans (hb1.mono (by simp))
    clear hb1
    go_wp2
    rw [HL.out]
    refine bodyPost_ret (v := lnV (.call 8 ⟨#[]⟩ ⟨#[]⟩ 0) (.slice none 0 0)) (by simp [results, Tryz.results13, go_sem, x0, x1, x2, x3, x4, x5, lnV, LN.call, LN.bad]) rfl ?_
    refine ⟨_, rfl, World.ownsRow_nil _ _ _ _, ?_⟩
    repeat' (first | with_reducible refine Below.setCell ?_ ?_ _ | with_reducible refine Below.alloc ?_ ?_ _ | with_reducible refine Below.drew ?_ | with_reducible assumption | with_reducible exact Below.refl _ _ | (simp; done) | (simp; omega) | omega)
  have HL : Hid (C = .bad) := HC.out
  clear HC
  go_enter Tryz.func13, Tryz.ntmps13
  go_wp2
  rw [HL.out]
  refine bodyPost_ret (v := lnV (.bad) (.slice none 0 0)) (by simp [results, Tryz.results13, go_sem, lnV, LN.call, LN.bad]) rfl ?_
  refine ⟨_, rfl, World.ownsRow_nil _ _ _ _, ?_⟩
  repeat' (first | with_reducible refine Below.setCell ?_ ?_ _ | with_reducible refine Below.alloc ?_ ?_ _ | with_reducible refine Below.drew ?_ | with_reducible assumption | with_reducible exact Below.refl _ _ | (simp; done) | (simp; omega) | omega)
set_option maxHeartbeats 4000000 in
set_option maxRecDepth 100000 in
theorem callLine_2 (g c : Nat) (s a : ByteArray) (w : World) (h0 : w.cell? ⟨g, 0, none⟩ = some (.string s)) (h1 : w.cell? ⟨g, 1, none⟩ = some (.string a)) :
    Calls Tryz.prog 13 #[.slice (some ⟨g, 0, none⟩) 2 c] w fun e w' => LAns w w' e (call2 s a) := by
  have hg := World.block_lt_of_cell? w _ h0
  obtain ⟨b1, e1⟩ : ∃ b, (s.toList == [114, 101, 97, 100]) = b := ⟨_, rfl⟩
  obtain ⟨b2, e2⟩ : ∃ b, (s.toList == [100, 101, 108]) = b := ⟨_, rfl⟩
  have HC : Hid (call2 s a = if b1 = true then .call 2 a ⟨#[]⟩ 0 else if b2 = true then .call 4 a ⟨#[]⟩ 0 else .bad) := by show _ = _; unfold call2 weq; rw [e1, e2]
  generalize call2 s a = C at *
  cases b1
  case true =>
    have HL : Hid (C = .call 2 a ⟨#[]⟩ 0) := HC.out
    clear HC e2
    go_enter Tryz.func13, Tryz.ntmps13
    go_wp2_with fail
    refine (make_any _ _ _ _ _).mono ?_
    rintro e w1 ⟨rfl, hb1⟩
    obtain ⟨⟨x0, x1, x2, x3, x4, x5⟩, f0, f1, f2, f3, f4, f5⟩ := six_of ((hb1.block w.heap.size (by simp)).trans (heap_alloc_new w _))
    have hB : Below w.heap.size w w1 := ((Below.refl _ _).alloc (Nat.le_refl _) _).trans (hb1.mono (by simp))
    clear hb1
    go_wp2
    rw [HL.out]
    refine bodyPost_ret (v := lnV (.call 2 a ⟨#[]⟩ 0) (.slice none 0 0)) (by simp [results, Tryz.results13, go_sem, x0, x1, x2, x3, x4, x5, lnV, LN.call, LN.bad]) rfl ?_
    refine ⟨_, rfl, World.ownsRow_nil _ _ _ _, ?_⟩
    repeat' (first | with_reducible refine Below.setCell ?_ ?_ _ | with_reducible refine Below.alloc ?_ ?_ _ | with_reducible refine Below.drew ?_ | with_reducible assumption | with_reducible exact Below.refl _ _ | (simp; done) | (simp; omega) | omega)
  cases b2
  case true =>
    have HL : Hid (C = .call 4 a ⟨#[]⟩ 0) := HC.out
    clear HC 
    go_enter Tryz.func13, Tryz.ntmps13
    go_wp2_with fail
    refine (make_any _ _ _ _ _).mono ?_
    rintro e w1 ⟨rfl, hb1⟩
    obtain ⟨⟨x0, x1, x2, x3, x4, x5⟩, f0, f1, f2, f3, f4, f5⟩ := six_of ((hb1.block w.heap.size (by simp)).trans (heap_alloc_new w _))
    have hB : Below w.heap.size w w1 := ((Below.refl _ _).alloc (Nat.le_refl _) _).trans (hb1.mono (by simp))
    clear hb1
    go_wp2
    rw [HL.out]
    refine bodyPost_ret (v := lnV (.call 4 a ⟨#[]⟩ 0) (.slice none 0 0)) (by simp [results, Tryz.results13, go_sem, x0, x1, x2, x3, x4, x5, lnV, LN.call, LN.bad]) rfl ?_
    refine ⟨_, rfl, World.ownsRow_nil _ _ _ _, ?_⟩
    repeat' (first | with_reducible refine Below.setCell ?_ ?_ _ | with_reducible refine Below.alloc ?_ ?_ _ | with_reducible refine Below.drew ?_ | with_reducible assumption | with_reducible exact Below.refl _ _ | (simp; done) | (simp; omega) | omega)
  have HL : Hid (C = .bad) := HC.out
  clear HC
  go_enter Tryz.func13, Tryz.ntmps13
  go_wp2
  rw [HL.out]
  refine bodyPost_ret (v := lnV (.bad) (.slice none 0 0)) (by simp [results, Tryz.results13, go_sem, lnV, LN.call, LN.bad]) rfl ?_
  refine ⟨_, rfl, World.ownsRow_nil _ _ _ _, ?_⟩
  repeat' (first | with_reducible refine Below.setCell ?_ ?_ _ | with_reducible refine Below.alloc ?_ ?_ _ | with_reducible refine Below.drew ?_ | with_reducible assumption | with_reducible exact Below.refl _ _ | (simp; done) | (simp; omega) | omega)
end Go.Proofs.YtfgfdjcgfbodfaaGreatDoor
