/-
  Spc, Spd, Spe, Spf, Spg.
-/
import Derived.Test.YtonpdbajoidigaaGreatDoorGn
import Derived.BigRegion
import Derived.Deep.QuietTactic
import Derived.BigQuiet
/-
  FnSpace: the engine's cells; its disk; one disk operation.
-/
namespace Go.Proofs.YtonpdbajoidigaaGreatDoor
open Go.RowKit
set_option linter.unusedSimpArgs false
set_option linter.unusedVariables false

/-- The engine's cells ahead of its handlers. -/
def engL (C : Nat) (s b : Int) (W Dm : Nat) (tb : Value) (q a u o : Int) (hs : List Value) : List Value :=
  [.pointer (some ⟨C, 0, none⟩), .int .i64 s, .int .i64 b, .int .i64 (s * b), .int .i64 (nblk (2 * (s * b))), .int .i64 (logN s b), .int .i64 (logN s b + s * b), .int .i64 (s * b - 2 * b), .map (some W), .map (some Dm), tb, .int .i64 q, .int .i64 a, .int .i64 u, .int .i64 o, .int .i64 (-1)] ++ hs
def EngAt (w : World) (E C : Nat) (s b : Int) (W Dm : Nat) (tb : Value) (q a u o : Int) (hs : List Value) : Prop := w.heap[E]? = some (.cells (engL C s b W Dm tb q a u o hs).toArray 68 (0, 0))
section
variable {w : World} {E C : Nat} {s b : Int} {W Dm : Nat} {tb : Value} {q a u o : Int} {hs : List Value}
theorem EngAt.c0 (h : EngAt w E C s b W Dm tb q a u o hs) : w.cell? ⟨E, 0, none⟩ = some (.pointer (some ⟨C, 0, none⟩)) := by rw [World.cell?, h]; rfl
theorem EngAt.c1 (h : EngAt w E C s b W Dm tb q a u o hs) : w.cell? ⟨E, 1, none⟩ = some (.int .i64 s) := by rw [World.cell?, h]; rfl
theorem EngAt.c2 (h : EngAt w E C s b W Dm tb q a u o hs) : w.cell? ⟨E, 2, none⟩ = some (.int .i64 b) := by rw [World.cell?, h]; rfl
theorem EngAt.c3 (h : EngAt w E C s b W Dm tb q a u o hs) : w.cell? ⟨E, 3, none⟩ = some (.int .i64 (s * b)) := by rw [World.cell?, h]; rfl
theorem EngAt.c4 (h : EngAt w E C s b W Dm tb q a u o hs) : w.cell? ⟨E, 4, none⟩ = some (.int .i64 (nblk (2 * (s * b)))) := by rw [World.cell?, h]; rfl
theorem EngAt.c5 (h : EngAt w E C s b W Dm tb q a u o hs) : w.cell? ⟨E, 5, none⟩ = some (.int .i64 (logN s b)) := by rw [World.cell?, h]; rfl
theorem EngAt.c6 (h : EngAt w E C s b W Dm tb q a u o hs) : w.cell? ⟨E, 6, none⟩ = some (.int .i64 (logN s b + s * b)) := by rw [World.cell?, h]; rfl
theorem EngAt.c7 (h : EngAt w E C s b W Dm tb q a u o hs) : w.cell? ⟨E, 7, none⟩ = some (.int .i64 (s * b - 2 * b)) := by rw [World.cell?, h]; rfl
theorem EngAt.c8 (h : EngAt w E C s b W Dm tb q a u o hs) : w.cell? ⟨E, 8, none⟩ = some (.map (some W)) := by rw [World.cell?, h]; rfl
theorem EngAt.c9 (h : EngAt w E C s b W Dm tb q a u o hs) : w.cell? ⟨E, 9, none⟩ = some (.map (some Dm)) := by rw [World.cell?, h]; rfl
theorem EngAt.c10 (h : EngAt w E C s b W Dm tb q a u o hs) : w.cell? ⟨E, 10, none⟩ = some tb := by rw [World.cell?, h]; rfl
theorem EngAt.c11 (h : EngAt w E C s b W Dm tb q a u o hs) : w.cell? ⟨E, 11, none⟩ = some (.int .i64 q) := by rw [World.cell?, h]; rfl
theorem EngAt.c12 (h : EngAt w E C s b W Dm tb q a u o hs) : w.cell? ⟨E, 12, none⟩ = some (.int .i64 a) := by rw [World.cell?, h]; rfl
theorem EngAt.c13 (h : EngAt w E C s b W Dm tb q a u o hs) : w.cell? ⟨E, 13, none⟩ = some (.int .i64 u) := by rw [World.cell?, h]; rfl
theorem EngAt.c14 (h : EngAt w E C s b W Dm tb q a u o hs) : w.cell? ⟨E, 14, none⟩ = some (.int .i64 o) := by rw [World.cell?, h]; rfl
theorem EngAt.c15 (h : EngAt w E C s b W Dm tb q a u o hs) : w.cell? ⟨E, 15, none⟩ = some (.int .i64 (-1)) := by rw [World.cell?, h]; rfl
theorem EngAt.fz (h : EngAt w E C s b W Dm tb q a u o hs) (i : Nat) : w.frozen? ⟨E, i, none⟩ = false := by unfold EngAt at h; simp [World.frozen?, h]
theorem EngAt.lt (h : EngAt w E C s b W Dm tb q a u o hs) : E < w.heap.size := (Array.getElem?_eq_some_iff.1 h).1
theorem EngAt.setOps (h : EngAt w E C s b W Dm tb q a u o hs) (o' : Int) : EngAt (w.setCell ⟨E, 14, none⟩ (.int .i64 o')) E C s b W Dm tb q a u o' hs := by
  unfold EngAt at *
  simp [World.setCell, Array.getElem?_modify, h, engL]
theorem EngAt.setUsed (h : EngAt w E C s b W Dm tb q a u o hs) (u' : Int) : EngAt (w.setCell ⟨E, 13, none⟩ (.int .i64 u')) E C s b W Dm tb q a u' o hs := by
  unfold EngAt at *
  simp [World.setCell, Array.getElem?_modify, h, engL]
theorem EngAt.setAct (h : EngAt w E C s b W Dm tb q a u o hs) (a' : Int) : EngAt (w.setCell ⟨E, 12, none⟩ (.int .i64 a')) E C s b W Dm tb q a' u o hs := by
  unfold EngAt at *
  simp [World.setCell, Array.getElem?_modify, h, engL]
theorem EngAt.setSeq (h : EngAt w E C s b W Dm tb q a u o hs) (q' : Int) : EngAt (w.setCell ⟨E, 11, none⟩ (.int .i64 q')) E C s b W Dm tb q' a u o hs := by
  unfold EngAt at *
  simp [World.setCell, Array.getElem?_modify, h, engL]
theorem EngAt.setTab (h : EngAt w E C s b W Dm tb q a u o hs) (tb' : Value) : EngAt (w.setCell ⟨E, 10, none⟩ tb') E C s b W Dm tb' q a u o hs := by
  unfold EngAt at *
  simp [World.setCell, Array.getElem?_modify, h, engL]
end
/-- What a disk's blocks are besides its own cells and its map. -/
def DKind (o : Obj) : Prop := (∃ c f, o = .cells c 74 f) ∨ ∃ c f, o = .cells c 93 f
/-- All that is none of these stays. -/
structure Kd (S : Nat → Prop) (w w' : World) : Prop where
  os : w'.os = w.os
  tape : w'.tape = w.tape
  output : w'.output = w.output
  size : w.heap.size ≤ w'.heap.size
  obj : ∀ g o, w.heap[g]? = some o → ¬ S g → ¬ DKind o → w'.heap[g]? = some o
theorem Kd.refl (S : Nat → Prop) (w : World) : Kd S w w := ⟨rfl, rfl, rfl, Nat.le_refl _, fun _ _ h _ _ => h⟩
theorem Kd.trans {S : Nat → Prop} {w w1 w2 : World} (h : Kd S w w1) (k : Kd S w1 w2) : Kd S w w2 :=
  ⟨k.os.trans h.os, k.tape.trans h.tape, k.output.trans h.output, Nat.le_trans h.size k.size, fun g o h1 h2 h3 => k.obj g o (h.obj g o h1 h2 h3) h2 h3⟩
theorem Kd.mono {S S' : Nat → Prop} {w w' : World} (h : Kd S w w') (hS : ∀ g, S g → S' g) : Kd S' w w' := ⟨h.os, h.tape, h.output, h.size, fun g o h1 h2 h3 => h.obj g o h1 (fun x => h2 (hS g x)) h3⟩
theorem Kd.of_kept {G S : Nat → Prop} {w w' : World} (h : Kept G w w') (hG : ∀ g, G g → S g ∨ ∃ o, w.heap[g]? = some o ∧ DKind o) : Kd S w w' :=
  ⟨h.os, h.tape, h.output, h.size, fun g o h1 h2 h3 => (h.block g (Array.getElem?_eq_some_iff.1 h1).1 (fun x => by
    rcases hG g x with y | ⟨o', e, y⟩
    · exact h2 y
    · rw [h1] at e
      injection e with e
      subst e
      exact h3 y)).trans h1⟩
theorem Kd.of_below {S : Nat → Prop} {w w' : World} (h : Below w.heap.size w w') : Kd S w w' := ⟨h.os, h.tape, h.output, h.size, fun g o h1 _ _ => (h.block g (Array.getElem?_eq_some_iff.1 h1).1).trans h1⟩
theorem Kd.setCell {S : Nat → Prop} (w : World) (p : Addr) (v : Value) (hp : S p.block) : Kd S w (w.setCell p v) := Kd.of_kept (Kept.setCell w p v S hp) fun g hg => .inl hg
theorem Kd.eng {S : Nat → Prop} {w w' : World} {E C : Nat} {s b : Int} {W Dm : Nat} {tb : Value} {q a u o : Int} {hs : List Value} (h : Kd S w w') (e : EngAt w E C s b W Dm tb q a u o hs) (hE : ¬ S E) : EngAt w' E C s b W Dm tb q a u o hs :=
  h.obj E _ e hE (fun k => by
    rcases k with ⟨c, f, k⟩ | ⟨c, f, k⟩
    · cases k
    · cases k)
set_option maxHeartbeats 1000000 in
set_option maxRecDepth 100000 in
theorem operate_any (E : Nat) (o l : Int) (F : FuncId) (bd caps : Array Value) (w : World) (Q : World → Prop)
    (h0 : w.cell? ⟨E, 14, none⟩ = some (.int .i64 o)) (hf : w.frozen? ⟨E, 14, none⟩ = false) (h1 : w.cell? ⟨E, 15, none⟩ = some (.int .i64 l)) (hne : o ≠ l) (ho : 0 ≤ o) (ho' : o ≤ 4611686018427387904)
    (eg : ∀ args W, (callFunc F args).run Tryz.prog W = .ok (.enter F args) W)
    (hc : ∀ d, Calls Tryz.prog F (bd ++ caps) ((w.drewN d).setCell ⟨E, 14, none⟩ (.int .i64 (o + 1))) fun e w' => (∃ v, e = .returned v) ∧ Q w') :
    Calls Tryz.prog 148 #[.pointer (some ⟨E, 0, none⟩), .func (.func F) bd caps] w fun e w' => (∃ v, e = .returned v) ∧ Q w' := by
  have hol : (o == l) = false := by rw [beq_eq_false_iff_ne]; exact hne
  have HC := Lib.hid hc
  clear hc
  go_enter Tryz.func148, Tryz.ntmps148
  go_wp2
  go_quiet (fail)
  go_wp2_with fail
  refine (HC.out _).mono ?_
  rintro e w1 ⟨⟨v, rfl⟩, hq⟩
  have HQ := Lib.hid hq
  clear hq
  go_wp2
  go_end0
  exact ⟨⟨_, rfl⟩, HQ.out⟩
end Go.Proofs.YtonpdbajoidigaaGreatDoor

/-
  FnSpace: the engine's disk; barrier and a block written.
-/
namespace Go.Proofs.YtonpdbajoidigaaGreatDoor
open Go.RowKit
set_option linter.unusedSimpArgs false
set_option linter.unusedVariables false

theorem chk_spl (L v : List Int) (k j : Nat) (hv : v.length = 64) (hk : k * 64 + 64 ≤ L.length) : ((spl L (k * 64) v).drop (64 * j)).take 64 = if j = k then v else (L.drop (64 * j)).take 64 := by
  unfold spl
  apply List.ext_getElem?
  intro i
  by_cases hi : i < 64
  · rw [List.getElem?_take, if_pos hi, List.getElem?_drop]
    by_cases e : j = k
    · subst e
      rw [if_pos rfl, List.append_assoc, List.getElem?_append_right (by simp; omega), List.getElem?_append_left (by simp; omega)]
      congr 1
      simp
      omega
    · rw [if_neg e, List.getElem?_take, if_pos hi, List.getElem?_drop]
      by_cases h : j < k
      · rw [List.append_assoc, List.getElem?_append_left (by simp; omega), List.getElem?_take, if_pos (by omega)]
      · rw [List.getElem?_append_right (by simp; omega), List.getElem?_drop]
        congr 1
        simp
        omega
  · rw [List.getElem?_take, if_neg hi]
    split
    · rw [List.getElem?_eq_none (by omega)]
    · rw [List.getElem?_take, if_neg hi]
theorem stlAll_len (xs : List Int) {nb : Nat} (hx : xs.length = nb * 64) : ∀ (n : Nat) (ws : List (Int × List Int)), ws.length = n → (∀ x ∈ ws, x.2.length = 64 ∧ 0 ≤ x.1 ∧ x.1 < (nb : Int)) → (stlAll xs ws).length = nb * 64 := by
  intro n
  induction n with
  | zero => intro ws h _; obtain rfl := List.length_eq_zero_iff.1 h; exact hx
  | succ n ih =>
    intro ws h hw
    obtain ⟨r, y, rfl⟩ : ∃ r y, ws = r ++ [y] := ⟨ws.dropLast, ws.getLast (by intro e; simp [e] at h), (List.dropLast_concat_getLast _).symm⟩
    have hr : r.length = n := by simpa using h
    have hy := hw y (by simp)
    have ih' := ih r hr (fun x hx => hw x (by simp [hx]))
    unfold stlAll at *
    rw [List.map_append, List.map_cons, List.map_nil, stl_snoc, setL_len _ _ _ (by rw [ih']; show y.1.toNat * 64 + 64 ≤ _; omega) (Nat.le_refl _)]
    exact ih'
theorem read_stl (xs : List Int) {nb : Nat} (hx : xs.length = nb * 64) (b : Int) (h0 : 0 ≤ b) (h1 : b < (nb : Int)) : ∀ (n : Nat) (ws : List (Int × List Int)), ws.length = n → (∀ x ∈ ws, x.2.length = 64 ∧ 0 ≤ x.1 ∧ x.1 < (nb : Int)) → readL (stlAll xs ws) [] b = readL xs ws b := by
  intro n
  induction n with
  | zero => intro ws h _; obtain rfl := List.length_eq_zero_iff.1 h; rfl
  | succ n ih =>
    intro ws h hw
    obtain ⟨r, y, rfl⟩ : ∃ r y, ws = r ++ [y] := ⟨ws.dropLast, ws.getLast (by intro e; simp [e] at h), (List.dropLast_concat_getLast _).symm⟩
    have hr : r.length = n := by simpa using h
    have hy := hw y (by simp)
    have hw' : ∀ x ∈ r, x.2.length = 64 ∧ 0 ≤ x.1 ∧ x.1 < (nb : Int) := fun x hx => hw x (by simp [hx])
    have ih' := ih r hr hw'
    have hl := stlAll_len xs hx n r hr hw'
    have e1 : readL xs (r ++ [y]) b = if y.1 = b then y.2 else readL xs r b := by unfold readL; rw [List.foldl_append]; rfl
    have e2 : stlAll xs (r ++ [y]) = spl (stlAll xs r) (y.1.toNat * 64) y.2 := by
      unfold stlAll
      rw [List.map_append, List.map_cons, List.map_nil, stl_snoc, setL, List.take_of_length_le (by show y.2.length ≤ 64; omega)]
    rw [e1, e2]
    show ((spl _ _ _).drop (64 * b.toNat)).take 64 = _
    rw [chk_spl _ _ _ _ hy.1 (by omega), ← ih']
    by_cases e : y.1 = b
    · rw [if_pos e, if_pos (by rw [e])]
    · rw [if_neg e, if_neg (by omega)]
      rfl
/-- The engine's disk: what each block reads. -/
def DS (B : Nat) (w : World) (C nb M m : Nat) (rd : Int → List Int) : Prop :=
  ∃ xs ws da dc wa wc D, CD B w C nb xs ws (.slice da nb dc) (.slice wa ws.length wc) M D ∧ ws.length ≤ m ∧ (∀ x ∈ ws, 0 ≤ x.1 ∧ x.1 < (nb : Int)) ∧ ∀ b, 0 ≤ b → b < (nb : Int) → readL xs ws b = rd b
theorem CD.lensD {B : Nat} {w : World} {C nb : Nat} {xs : List Int} {ws : List (Int × List Int)} {dv wv : Value} {M : Nat} {D : DataW Unit} (h : CD B w C nb xs ws dv wv M D) (hok : ∀ x ∈ ws, 0 ≤ x.1 ∧ x.1 < (nb : Int)) : ∀ x ∈ ws, x.2.length = 64 ∧ 0 ≤ x.1 ∧ x.1 < (nb : Int) := fun x hx => ⟨(h.lens x hx).1, hok x hx⟩
theorem CD.neTag {B : Nat} {w : World} {C nb : Nat} {xs : List Int} {ws : List (Int × List Int)} {dv wv : Value} {M : Nat} {D : DataW Unit} (h : CD B w C nb xs ws dv wv M D) {p : Nat} {c : Array Value} {t : TypeId} {f : Nat × Nat} (hp : w.heap[p]? = some (.cells c t f)) (h1 : t ≠ 91) : p ≠ C ∧ p ≠ M := by
  refine ⟨fun e => ?_, fun e => ?_⟩
  · rw [e, h.cell] at hp; injection hp with hp; injection hp with _ e2; exact h1 e2.symm
  · obtain ⟨es, clock, hb, _⟩ := h.map
    rw [e, hb] at hp
    cases hp
theorem CD.neW {B : Nat} {w : World} {C nb : Nat} {xs : List Int} {ws : List (Int × List Int)} {dv wv : Value} {M : Nat} {D : DataW Unit} (h : CD B w C nb xs ws dv wv M D) {p : Nat} {c : Array Value} {t : TypeId} {f : Nat × Nat} (hp : w.heap[p]? = some (.cells c t f)) (h1 : t ≠ 93) : wv.ownBlock ≠ some p := fun e => by
  obtain ⟨cur, hc⟩ := owns_tag h.wr e
  rw [hp] at hc
  injection hc with hc
  injection hc with _ e2
  exact h1 e2
theorem CD.neD {B : Nat} {w : World} {C nb : Nat} {xs : List Int} {ws : List (Int × List Int)} {dv wv : Value} {M : Nat} {D : DataW Unit} (h : CD B w C nb xs ws dv wv M D) {p : Nat} {c : Array Value} {t : TypeId} {f : Nat × Nat} (hp : w.heap[p]? = some (.cells c t f)) (h1 : t ≠ 74) : dv.ownBlock ≠ some p := fun e => by
  obtain ⟨cur, hc⟩ := owns_tag h.dur e
  rw [hp] at hc
  injection hc with hc
  injection hc with _ e2
  exact h1 e2
/-- Two blocks of the disk that hold what a reader of it writes. -/
theorem kd_write {B : Nat} {w w' : World} {C nb : Nat} {xs : List Int} {ws : List (Int × List Int)} {dv wv : Value} {M : Nat} {D : DataW Unit} (h : CD B w C nb xs ws dv wv M D) (hk : Kept (fun g => g = C ∨ g = M ∨ wv.ownBlock = some g) w w') : Kd (fun g => g = C ∨ g = M) w w' :=
  Kd.of_kept hk fun g hg => by
    rcases hg with e | e | e
    · exact .inl (.inl e)
    · exact .inl (.inr e)
    · obtain ⟨cur, hc⟩ := owns_tag h.wr e
      exact .inr ⟨_, hc, .inr ⟨_, _, rfl⟩⟩
theorem kd_barrier {B : Nat} {w w' : World} {C nb : Nat} {xs : List Int} {ws : List (Int × List Int)} {dv wv : Value} {M : Nat} {D : DataW Unit} (h : CD B w C nb xs ws dv wv M D) (hk : Kept (cdG C M dv) w w') : Kd (fun g => g = C ∨ g = M) w w' :=
  Kd.of_kept hk fun g hg => by
    rcases hg with e | e | e
    · exact .inl (.inl e)
    · exact .inl (.inr e)
    · obtain ⟨cur, hc⟩ := owns_tag h.dur e
      exact .inr ⟨_, hc, .inl ⟨_, _, rfl⟩⟩
theorem below_write {B : Nat} {w w' : World} {C nb : Nat} {xs : List Int} {ws : List (Int × List Int)} {dv wv : Value} {M : Nat} {D : DataW Unit} (h : CD B w C nb xs ws dv wv M D) (hB : B ≤ w.heap.size) (hk : Kept (fun g => g = C ∨ g = M ∨ wv.ownBlock = some g) w w') : Below B w w' :=
  hk.below hB fun g hg => by
    rcases hg with e | e | e
    · rw [e]; exact h.hC
    · rw [e]; exact h.hM
    · exact (h.wr.lt g e).1
theorem below_barrier {B : Nat} {w w' : World} {C nb : Nat} {xs : List Int} {ws : List (Int × List Int)} {dv wv : Value} {M : Nat} {D : DataW Unit} (h : CD B w C nb xs ws dv wv M D) (hB : B ≤ w.heap.size) (hk : Kept (cdG C M dv) w w') : Below B w w' :=
  hk.below hB fun g hg => by
    rcases hg with e | e | e
    · rw [e]; exact h.hC
    · rw [e]; exact h.hM
    · exact (h.dur.lt g e).1
theorem DS.kd {S : Nat → Prop} {B : Nat} {w w' : World} {C nb M m : Nat} {rd : Int → List Int} (h : DS B w C nb M m rd) (hb : Below w.heap.size w w') : DS B w' C nb M m rd := by
  obtain ⟨xs, ws, da, dc, wa, wc, D, hc, h1, h2, h3⟩ := h
  exact ⟨xs, ws, da, dc, wa, wc, D, hc.below hb, h1, h2, h3⟩
theorem CD.setE {B : Nat} {w : World} {C nb : Nat} {xs : List Int} {ws : List (Int × List Int)} {dv wv : Value} {M : Nat} {D : DataW Unit} (h : CD B w C nb xs ws dv wv M D) {E : Nat} {c : Array Value} (hE : w.heap[E]? = some (.cells c 68 (0, 0))) (i : Nat) (v : Value) : CD B (w.setCell ⟨E, i, none⟩ v) C nb xs ws dv wv M D := by
  refine h.kept (Kept.setCell w ⟨E, i, none⟩ v (fun g => g = E) rfl) (fun g hg e => ?_)
  subst e
  rcases hg with e | e | e | e
  · exact (h.neTag hE (by decide)).1 e
  · exact (h.neTag hE (by decide)).2 e
  · exact h.neD hE (by decide) e
  · exact h.neW hE (by decide) e
theorem call_bar (args : Array Value) (W : World) : (callFunc 150 args).run Tryz.prog W = .ok (.enter 150 args) W := by simp [go_sem]
theorem call_wb1 (args : Array Value) (W : World) : (callFunc 149 args).run Tryz.prog W = .ok (.enter 149 args) W := by simp [go_sem]
/-- The engine behind a disk operation. -/
def EOp (B : Nat) (w w' : World) (E C nb M m : Nat) (s b : Int) (W Dm : Nat) (tb : Value) (q a u o : Int) (hs : List Value) (rd : Int → List Int) : Prop :=
  EngAt w' E C s b W Dm tb q a u o hs ∧ DS B w' C nb M m rd ∧ Below B w w' ∧ Kd (fun g => g = C ∨ g = M ∨ g = E) w w'
set_option maxHeartbeats 1000000 in
set_option maxRecDepth 100000 in
theorem ebarrier_cd (B E C nb M : Nat) (s b : Int) (W Dm : Nat) (tb : Value) (q a u o : Int) (hs : List Value) (rd : Int → List Int) (xs : List Int) (ws : List (Int × List Int)) (da : Option Addr) (dc : Nat) (wa : Option Addr) (wc : Nat) (D : DataW Unit) (w : World) (hE : EngAt w E C s b W Dm tb q a u o hs) (hc : CD B w C nb xs ws (.slice da nb dc) (.slice wa ws.length wc) M D) (h1 : ws.length ≤ 4000) (h2 : ∀ x ∈ ws, 0 ≤ x.1 ∧ x.1 < (nb : Int)) (h3 : ∀ b, 0 ≤ b → b < (nb : Int) → readL xs ws b = rd b) (hB : B ≤ E) (hnb : 1 ≤ nb ∧ nb ≤ 4096) (ho : 0 ≤ o) (ho' : o ≤ 4611686018427387904) :
    Calls Tryz.prog 93 #[.pointer (some ⟨E, 0, none⟩)] w fun e w' => (∃ v, e = .returned v) ∧ EOp B w w' E C nb M 0 s b W Dm tb q a u (o + 1) hs rd ∧ Kept (fun g => g = E ∨ cdG C M (.slice da nb dc) g) w w' := by
  have c0 := hE.c0
  have HO : Hid (Calls Tryz.prog 148 #[.pointer (some ⟨E, 0, none⟩), .func (.func 150) #[.pointer (some ⟨C, 0, none⟩)] #[]] w fun e w' => (∃ v, e = .returned v) ∧ (EOp B w w' E C nb M 0 s b W Dm tb q a u (o + 1) hs rd ∧ Kept (fun g => g = E ∨ cdG C M (.slice da nb dc) g) w w')) := by
    refine operate_any E o (-1) _ _ _ w _ hE.c14 (hE.fz 14) hE.c15 (by omega) ho ho' call_bar (fun d => ?_)
    have hE1 : EngAt ((w.drewN d).setCell ⟨E, 14, none⟩ (.int .i64 (o + 1))) E C s b W Dm tb q a u (o + 1) hs := EngAt.setOps (w := w.drewN d) hE (o + 1)
    have hc1 : CD B ((w.drewN d).setCell ⟨E, 14, none⟩ (.int .i64 (o + 1))) C nb xs ws (.slice da nb dc) (.slice wa ws.length wc) M D := CD.setE (w := w.drewN d) (hc.below (below_drewN (Below.refl _ _) d)) hE 14 _
    have hlt := hE1.lt
    have hb1 : Below B w ((w.drewN d).setCell ⟨E, 14, none⟩ (.int .i64 (o + 1))) := (below_drewN (Below.refl _ _) d).setCell hB _
    have hk1 : Kd (fun g => g = C ∨ g = M ∨ g = E) w ((w.drewN d).setCell ⟨E, 14, none⟩ (.int .i64 (o + 1))) := (Kd.of_below (below_drewN (Below.refl _ _) d)).trans (Kd.setCell _ _ _ (.inr (.inr rfl)))
    have hp1 : Kept (fun g => g = E ∨ cdG C M (.slice da nb dc) g) w ((w.drewN d).setCell ⟨E, 14, none⟩ (.int .i64 (o + 1))) := (Kept.drewN w d _).trans (Kept.setCell _ _ _ _ (.inl rfl))
    refine (barrier_kept B C nb xs ws da dc wa wc M D _ hc1 (by omega) hnb h2 (by omega)).mono ?_
    rintro e w2 ⟨hv, hc2, hk2⟩
    have hkd := kd_barrier hc1 hk2
    refine ⟨hv, ⟨hkd.eng hE1 (fun x => ?_), ⟨_, [], da, dc, none, 0, _, hc2, Nat.le_refl _, fun x hx => by simp at hx, fun b' h0' h1' => ?_⟩, hb1.trans ((below_barrier hc1 (by omega) hk2)), hk1.trans (hkd.mono fun g hg => hg.elim .inl (fun x => .inr (.inl x)))⟩, hp1.trans (hk2.mono fun g hg => .inr hg)⟩
    · rcases x with x | x
      · exact (hc1.neTag hE1 (by decide)).1 x
      · exact (hc1.neTag hE1 (by decide)).2 x
    · rw [read_stl xs hc.len b' h0' h1' _ ws rfl (hc.lensD h2)]
      exact h3 b' h0' h1'
  clear hc h2 h3
  go_enter Tryz.func93, Tryz.ntmps93
  go_wp2_with fail
  refine HO.out.mono ?_
  rintro e w1 ⟨⟨v, rfl⟩, hq⟩
  have HQ := Lib.hid hq
  clear hq
  go_wp2
  go_end0
  exact ⟨⟨_, rfl⟩, HQ.out⟩
theorem ebarrier_any (B E C nb M : Nat) (s b : Int) (W Dm : Nat) (tb : Value) (q a u o : Int) (hs : List Value) (rd : Int → List Int) (w : World) (hE : EngAt w E C s b W Dm tb q a u o hs) (hD : DS B w C nb M 4000 rd) (hB : B ≤ E) (hnb : 1 ≤ nb ∧ nb ≤ 4096) (ho : 0 ≤ o) (ho' : o ≤ 4611686018427387904) :
    Calls Tryz.prog 93 #[.pointer (some ⟨E, 0, none⟩)] w fun e w' => (∃ v, e = .returned v) ∧ EOp B w w' E C nb M 0 s b W Dm tb q a u (o + 1) hs rd := by
  obtain ⟨xs, ws, da, dc, wa, wc, D, hc, h1, h2, h3⟩ := hD
  exact (ebarrier_cd B E C nb M s b W Dm tb q a u o hs rd xs ws da dc wa wc D w hE hc h1 h2 h3 hB hnb ho ho').mono fun e w' h => ⟨h.1, h.2.1⟩
end Go.Proofs.YtonpdbajoidigaaGreatDoor

/-
  FnSpace: the engine writes a block.
-/
namespace Go.Proofs.YtonpdbajoidigaaGreatDoor
open Go.RowKit
set_option linter.unusedSimpArgs false
set_option linter.unusedVariables false

theorem range_of_heap {w : World} {p : Nat} {vs : List Value} {t : TypeId} {f : Nat × Nat} (h : w.heap[p]? = some (.cells vs.toArray t f)) : w.rangeAt p 0 vs := fun j v hv => by
  rw [World.cell?, h]
  simpa using hv
theorem cell_oneB {w : World} {p : Nat} {v : Value} {t : TypeId} {f : Nat × Nat} (h : w.heap[p]? = some (.cells #[v] t f)) : w.cell? ⟨p, 0, none⟩ = some v := by rw [World.cell?, h]; rfl
theorem CD.keepB {B : Nat} {w w' : World} {C nb : Nat} {xs : List Int} {ws : List (Int × List Int)} {dv wv : Value} {M : Nat} {D : DataW Unit} (h : CD B w C nb xs ws dv wv M D) (hk : Kept (fun g => g = C ∨ g = M ∨ wv.ownBlock = some g) w w') {p : Nat} {c : Array Value} {t : TypeId} {f : Nat × Nat} (hp : w.heap[p]? = some (.cells c t f)) (h1 : t ≠ 91) (h2 : t ≠ 93) : w'.heap[p]? = some (.cells c t f) :=
  (hk.block p (Array.getElem?_eq_some_iff.1 hp).1 (fun x => by
    rcases x with x | x | x
    · exact (h.neTag hp h1).1 x
    · exact (h.neTag hp h1).2 x
    · exact h.neW hp h2 x)).trans hp
set_option maxHeartbeats 1000000 in
set_option maxRecDepth 100000 in
theorem wb1_any (B E C nb M p1 p2 p3 : Nat) (xs : List Int) (ws : List (Int × List Int)) (dv : Value) (wa : Option Addr) (wc : Nat) (D : DataW Unit) (X : List Int) (bk : Int) (ce : Array Value) (w : World)
    (c0 : ce[0]? = some (.pointer (some ⟨C, 0, none⟩))) (hE : w.heap[E]? = some (.cells ce 68 (0, 0))) (k1 : w.heap[p1]? = some (.cells #[.pointer (some ⟨E, 0, none⟩)] 52 (0, 0))) (k2 : w.heap[p2]? = some (.cells #[.int .i64 bk] 2 (0, 0))) (k3 : w.heap[p3]? = some (.cells (u8s X).toArray 74 (0, 0)))
    (hc : CD B w C nb xs ws dv (.slice wa ws.length wc) M D) (hX : X.length = 64) (hb : (Lit.int .i64 bk).wf = true) (hm : ws.length < 4095) (hB : B ≤ w.heap.size) :
    Calls Tryz.prog 149 #[.pointer (some ⟨p1, 0, none⟩), .pointer (some ⟨p2, 0, none⟩), .pointer (some ⟨p3, 0, none⟩)] w fun e w' => (∃ v, e = .returned v) ∧ ∃ wa' wc' D', CD B w' C nb xs (ws ++ [(bk, X)]) dv (.slice wa' (ws ++ [(bk, X)]).length wc') M D' ∧ Kept (fun g => g = C ∨ g = M ∨ (Value.slice wa ws.length wc).ownBlock = some g) w w' := by
  have HC := Lib.hid hc
  have HW : Hid (Calls Tryz.prog 37 #[.pointer (some ⟨C, 0, none⟩), .int .i64 bk, .agg (u8s X).toArray] w.drew fun e w' => (∃ v, e = .returned v) ∧ ∃ wa' wc' D', CD B w' C nb xs (ws ++ [(bk, X)]) dv (.slice wa' (ws ++ [(bk, X)]).length wc') M D' ∧ Kept (fun g => g = C ∨ g = M ∨ (Value.slice wa ws.length wc).ownBlock = some g) w.drew w') := cwrite_any B C nb xs ws dv wa wc M D bk X w.drew (hc.below (Below.refl _ _).drew) hX hb hm hB
  clear hc
  go_enter Tryz.func149, Tryz.ntmps149
  refine wp_region_held_drew (S := fun V : World => V.heap[p1]? = some (.cells #[.pointer (some ⟨E, 0, none⟩)] 52 (0, 0)) ∧ V.heap[p2]? = some (.cells #[.int .i64 bk] 2 (0, 0)) ∧ V.heap[p3]? = some (.cells (u8s X).toArray 74 (0, 0)) ∧ V.heap[E]? = some (.cells ce 68 (0, 0))) (by kernel_rfl) ⟨k1, k2, k3, hE⟩ (fun hS => ?_)
  refine wpAnyH_take (i := 0) (v := .pointer (some ⟨E, 0, none⟩)) rfl (by kernel_rfl) (by kernel_rfl) (by kernel_rfl) (fun _ _ _ h => h) (Or.inl ⟨rfl, fun V hV => by have q := cell_oneB hV.1; clear hV; go_simp⟩) hS ?_
  refine wpAnyH_take (i := 1) (v := .pointer (some ⟨E, 0, none⟩)) rfl (by kernel_rfl) (by kernel_rfl) (by kernel_rfl) (fun _ _ _ h => h) (Or.inl ⟨rfl, fun V hV => by clear hV; go_simp⟩) hS ?_
  refine wpAnyH_take (i := 2) (v := .pointer (some ⟨E, 0, none⟩)) rfl (by kernel_rfl) (by kernel_rfl) (by kernel_rfl) (fun _ _ _ h => h) (Or.inl ⟨rfl, fun V hV => by clear hV; go_simp⟩) hS ?_
  refine wpAnyH_take (i := 3) (v := .pointer (some ⟨C, 0, none⟩)) rfl (by kernel_rfl) (by kernel_rfl) (by kernel_rfl) (fun _ _ _ h => h) (Or.inl ⟨rfl, fun V hV => by have q : V.cell? ⟨E, 0, none⟩ = some (.pointer (some ⟨C, 0, none⟩)) := by { rw [World.cell?, hV.2.2.2]; exact c0 }; clear hV; go_simp⟩) hS ?_
  refine wpAnyH_take (i := 4) (v := .int .i64 bk) rfl (by kernel_rfl) (by kernel_rfl) (by kernel_rfl) (fun _ _ _ h => h) (Or.inl ⟨rfl, fun V hV => by have q := cell_oneB hV.2.1; clear hV; go_simp⟩) hS ?_
  refine wpAnyH_take (i := 5) (v := .agg (u8s X).toArray) rfl (by kernel_rfl) (by kernel_rfl) (by kernel_rfl) (fun _ _ _ h => h) (yieldsIf_load_mid rfl 74 (.tmp 2) rfl p3 0 rfl (u8s X) _ (fun V hV => range_of_heap hV.2.2.1) Tryz.underlying74 rfl (by rw [u8s_len, hX]; exact infoBB)) hS ?_
  refine wpAnyH_ready (rs := [6]) (by kernel_rfl) (by simp) (AllReadyH.cons rfl (fun K hK => ?_) AllReadyH.nil)
  have HS := Lib.hid hS
  clear hS k1 k2 k3 hE
  go_simp
  refine HW.out.mono ?_
  rintro e w1 ⟨⟨v, rfl⟩, wa', wc', D', hc1, hk1⟩
  have hcd := HC.out.below (w' := w.drew) (Below.refl _ _).drew
  have HS1 : Hid (w1.heap[p1]? = some (.cells #[.pointer (some ⟨E, 0, none⟩)] 52 (0, 0)) ∧ w1.heap[p2]? = some (.cells #[.int .i64 bk] 2 (0, 0)) ∧ w1.heap[p3]? = some (.cells (u8s X).toArray 74 (0, 0)) ∧ w1.heap[E]? = some (.cells ce 68 (0, 0))) := ⟨hcd.keepB hk1 HS.out.1 (by decide) (by decide), hcd.keepB hk1 HS.out.2.1 (by decide) (by decide), hcd.keepB hk1 HS.out.2.2.1 (by decide) (by decide), hcd.keepB hk1 HS.out.2.2.2 (by decide) (by decide)⟩
  have HR : Hid (∃ wa' wc' D', CD B w1 C nb xs (ws ++ [(bk, X)]) dv (.slice wa' (ws ++ [(bk, X)]).length wc') M D' ∧ Kept (fun g => g = C ∨ g = M ∨ (Value.slice wa ws.length wc).ownBlock = some g) w w1) := ⟨wa', wc', D', hc1, (Kept.drew w _).trans hk1⟩
  clear hcd hc1 hk1 HS
  go_simp
  refine hK.out _ _ HS1.out (fun _ => ?_)
  refine wpAnyH_done (by kernel_rfl) ?_ _
  clear hK K
  go_wp2
  go_end0
  exact ⟨⟨_, rfl⟩, HR.out⟩
theorem gn_setS {W : World} {g i j : Nat} {v : Value} (h : g ≠ j) : (W.setCell ⟨g, i, none⟩ v).heap[j]? = W.heap[j]? := by simp [World.setCell, Array.getElem?_modify, h]
theorem readL_snoc (xs : List Int) (ws : List (Int × List Int)) (bk : Int) (X : List Int) (b : Int) : readL xs (ws ++ [(bk, X)]) b = if b = bk then X else readL xs ws b := by
  unfold readL
  rw [List.foldl_append]
  show (if bk = b then X else _) = _
  by_cases e : b = bk
  · rw [if_pos e, if_pos e.symm]
  · rw [if_neg e, if_neg (fun x => e x.symm)]
def updR (rd : Int → List Int) (bk : Int) (X : List Int) : Int → List Int := fun b => if b = bk then X else rd b
theorem DS.sum {B : Nat} {w : World} {C nb M m : Nat} {rd : Int → List Int} (h : DS B w C nb M m rd) {m' : Nat} (hm : m ≤ m') : DS B w C nb M m' rd := by
  obtain ⟨xs, ws, da, dc, wa, wc, D, hc, h1, h2, h3⟩ := h
  exact ⟨xs, ws, da, dc, wa, wc, D, hc, by omega, h2, h3⟩
theorem DS.len {B : Nat} {w : World} {C nb M m : Nat} {rd : Int → List Int} (h : DS B w C nb M m rd) : ∃ wa k wc, w.cell? ⟨C, 1, none⟩ = some (.slice wa k wc) ∧ k ≤ m ∧ DS B w C nb M k rd ∧ C < w.heap.size := by
  obtain ⟨xs, ws, da, dc, wa, wc, D, hc, h1, h2, h3⟩ := h
  exact ⟨wa, ws.length, wc, (cells3 hc.cell).2.1, h1, ⟨xs, ws, da, dc, wa, wc, D, hc, Nat.le_refl _, h2, h3⟩, hc.ltC⟩
theorem ewrite_op (B E C nb M k : Nat) (s b : Int) (W Dm : Nat) (tb : Value) (q a u o : Int) (hs : List Value) (rd : Int → List Int) (bk : Int) (X : List Int) (w : World) (p1 p2 p3 : Nat) (hE : EngAt w E C s b W Dm tb q a u o hs) (hD : DS B w C nb M k rd) (hk : k < 4000) (hB : B ≤ E) (ho : 0 ≤ o) (ho' : o ≤ 4611686018427387904) (hX : X.length = 64) (hb0 : 0 ≤ bk) (hb1 : bk < (nb : Int)) (hnb : nb ≤ 4096)
    (k1 : w.heap[p1]? = some (.cells #[.pointer (some ⟨E, 0, none⟩)] 52 (0, 0))) (k2 : w.heap[p2]? = some (.cells #[.int .i64 bk] 2 (0, 0))) (k3 : w.heap[p3]? = some (.cells (u8s X).toArray 74 (0, 0))) :
    Calls Tryz.prog 148 #[.pointer (some ⟨E, 0, none⟩), .func (.func 149) #[] #[.pointer (some ⟨p1, 0, none⟩), .pointer (some ⟨p2, 0, none⟩), .pointer (some ⟨p3, 0, none⟩)]] w fun e w' => (∃ v, e = .returned v) ∧ EOp B w w' E C nb M (k + 1) s b W Dm tb q a u (o + 1) hs (updR rd bk X) := by
  refine operate_any E o (-1) _ _ _ w _ hE.c14 (hE.fz 14) hE.c15 (by omega) ho ho' call_wb1 (fun d => ?_)
  obtain ⟨xs, ws, da, dc, wa, wc, D, hc, h1, h2, h3⟩ := hD
  have hE1 : EngAt ((w.drewN d).setCell ⟨E, 14, none⟩ (.int .i64 (o + 1))) E C s b W Dm tb q a u (o + 1) hs := EngAt.setOps (w := w.drewN d) hE (o + 1)
  have hc1 : CD B ((w.drewN d).setCell ⟨E, 14, none⟩ (.int .i64 (o + 1))) C nb xs ws (.slice da nb dc) (.slice wa ws.length wc) M D := CD.setE (w := w.drewN d) (hc.below (below_drewN (Below.refl _ _) d)) hE 14 _
  have hlt := hE1.lt
  have hbel : Below B w ((w.drewN d).setCell ⟨E, 14, none⟩ (.int .i64 (o + 1))) := (below_drewN (Below.refl _ _) d).setCell hB _
  have hk1 : Kd (fun g => g = C ∨ g = M ∨ g = E) w ((w.drewN d).setCell ⟨E, 14, none⟩ (.int .i64 (o + 1))) := (Kd.of_below (below_drewN (Below.refl _ _) d)).trans (Kd.setCell _ _ _ (.inr (.inr rfl)))
  have ne : ∀ {p : Nat} {c : Array Value} {t : TypeId}, w.heap[p]? = some (.cells c t (0, 0)) → t ≠ 68 → ((w.drewN d).setCell ⟨E, 14, none⟩ (.int .i64 (o + 1))).heap[p]? = some (.cells c t (0, 0)) := fun {p c t} hp ht => by
    refine (gn_setS (fun e => ?_)).trans hp
    subst e
    have := hE
    unfold EngAt at this
    rw [this] at hp
    injection hp with hp
    injection hp with _ e2
    exact ht e2.symm
  have hwf : (Lit.int .i64 bk).wf = true := by
    obtain ⟨n, rfl⟩ := Int.eq_ofNat_of_zero_le hb0
    exact wf_nat n (by omega)
  refine (wb1_any B E C nb M p1 p2 p3 xs ws _ wa wc D X bk _ _ rfl hE1 (ne k1 (by decide)) (ne k2 (by decide)) (ne k3 (by decide)) hc1 hX hwf (by omega) (by omega)).mono ?_
  rintro e w2 ⟨hv, wa', wc', D', hc2, hk2⟩
  have hkd := kd_write hc1 hk2
  refine ⟨hv, hkd.eng hE1 (fun x => ?_), ⟨xs, ws ++ [(bk, X)], da, dc, wa', wc', D', hc2, by simp; omega, fun x hx => ?_, fun b' h0' h1' => ?_⟩, hbel.trans (below_write hc1 (by omega) hk2), hk1.trans (hkd.mono fun g hg => hg.elim .inl (fun x => .inr (.inl x)))⟩
  · rcases x with x | x
    · exact (hc1.neTag hE1 (by decide)).1 x
    · exact (hc1.neTag hE1 (by decide)).2 x
  · rcases List.mem_append.1 hx with hx | hx
    · exact h2 x hx
    · simp at hx; subst hx; exact ⟨hb0, hb1⟩
  · rw [readL_snoc, updR, h3 b' h0' h1']
theorem boxes {w W3 : World} {E : Nat} {bk : Int} {X : List Int} (h : ((w.alloc (.cells #[.pointer (some ⟨E, 0, none⟩)] 52)).alloc (.cells #[.int .i64 bk] 2)).alloc (.cells (u8s X).toArray 74) = W3) :
    Below w.heap.size w W3 ∧ W3.heap[w.heap.size]? = some (.cells #[.pointer (some ⟨E, 0, none⟩)] 52 (0, 0)) ∧ W3.heap[w.heap.size + 1]? = some (.cells #[.int .i64 bk] 2 (0, 0)) ∧ W3.heap[w.heap.size + 1 + 1]? = some (.cells (u8s X).toArray 74 (0, 0)) := by
  subst h
  refine ⟨(((Below.refl _ _).alloc (Nat.le_refl _) _).alloc (by simp) _).alloc (by simp; omega) _, ?_, ?_, ?_⟩
  · exact (heap_alloc_oldC _ _ _ (by simp; omega)).trans ((heap_alloc_oldC _ _ _ (by simp)).trans (heap_alloc_new w _))
  · have e : (w.alloc (.cells #[.pointer (some ⟨E, 0, none⟩)] 52)).heap.size = w.heap.size + 1 := by simp
    rw [← e]
    exact (heap_alloc_oldC _ _ _ (by simp)).trans (heap_alloc_new _ _)
  · have e : ((w.alloc (.cells #[.pointer (some ⟨E, 0, none⟩)] 52)).alloc (.cells #[.int .i64 bk] 2)).heap.size = w.heap.size + 1 + 1 := by simp
    rw [← e]
    exact heap_alloc_new _ _
set_option maxHeartbeats 1000000 in
set_option maxRecDepth 100000 in
theorem ewrite_any (B E C nb M : Nat) (s b : Int) (W Dm : Nat) (tb : Value) (q a u o : Int) (hs : List Value) (rd : Int → List Int) (bk : Int) (X : List Int) (w : World) (hE : EngAt w E C s b W Dm tb q a u o hs) (hD : DS B w C nb M 256 rd) (hB : B ≤ E) (ho : 0 ≤ o) (ho' : o ≤ 2305843009213693952) (hX : X.length = 64) (hb0 : 0 ≤ bk) (hb1 : bk < (nb : Int)) (hnb : 1 ≤ nb ∧ nb ≤ 4096) :
    Calls Tryz.prog 92 #[.pointer (some ⟨E, 0, none⟩), .int .i64 bk, .agg (u8s X).toArray] w fun e w' => (∃ v, e = .returned v) ∧ ∃ o', o ≤ o' ∧ o' ≤ o + 2 ∧ EOp B w w' E C nb M 256 s b W Dm tb q a u o' hs (updR rd bk X) := by
  obtain ⟨W3, hW3⟩ : ∃ W3, ((w.alloc (.cells #[.pointer (some ⟨E, 0, none⟩)] 52)).alloc (.cells #[.int .i64 bk] 2)).alloc (.cells (u8s X).toArray 74) = W3 := ⟨_, rfl⟩
  obtain ⟨hbx, k1, k2, k3⟩ := boxes hW3
  have hE3 : EngAt W3 E C s b W Dm tb q a u o hs := (hbx.block E hE.lt).trans hE
  have hlE := hE.lt
  have hD3 : DS B W3 C nb M 256 rd := hD.kd (S := fun _ => False) hbx
  obtain ⟨xs, ws, da, dc, wa, wc, D, hc, h1, h2, h3⟩ := hD
  have hc3 := hc.below hbx
  have hDk : DS B W3 C nb M ws.length rd := ⟨xs, ws, da, dc, wa, wc, D, hc3, Nat.le_refl _, h2, h3⟩
  have HP3 : Hid (∀ V, Kept (fun g => g = E ∨ cdG C M (.slice da nb dc) g) W3 V → V.heap[w.heap.size]? = some (.cells #[.pointer (some ⟨E, 0, none⟩)] 52 (0, 0)) ∧ V.heap[w.heap.size + 1]? = some (.cells #[.int .i64 bk] 2 (0, 0)) ∧ V.heap[w.heap.size + 1 + 1]? = some (.cells (u8s X).toArray 74 (0, 0))) := fun V hV => by
    have ne : ∀ j, w.heap.size ≤ j → ¬ (j = E ∨ cdG C M (.slice da nb dc) j) := fun j hj x => by
      rcases x with x | x | x | x
      · omega
      · have := hc.ltC; omega
      · have := hc.ltM; omega
      · have := (hc.dur.lt j x).2; omega
    have l1 := (Array.getElem?_eq_some_iff.1 k1).1
    have l2 := (Array.getElem?_eq_some_iff.1 k2).1
    have l3 := (Array.getElem?_eq_some_iff.1 k3).1
    exact ⟨(hV.block _ l1 (ne _ (Nat.le_refl _))).trans k1, (hV.block _ l2 (ne _ (by omega))).trans k2, (hV.block _ l3 (ne _ (by omega))).trans k3⟩
  have c1 : W3.cell? ⟨C, 1, none⟩ = some (.slice wa ws.length wc) := (cells3 hc3.cell).2.1
  have hlC := hc3.ltC
  have e0 := hE3.c0
  have b1 := cell_oneB k1
  have HB3 : Hid (Below B w W3 ∧ Kd (fun g => g = C ∨ g = M ∨ g = E) w W3) := ⟨hbx.mono (by omega), Kd.of_below hbx⟩
  have hXs : (u8s X).toArray.size = 64 := by rw [List.size_toArray, u8s_len, hX]
  have HBR := Lib.hid (ebarrier_cd B E C nb M s b W Dm tb q a u o hs rd xs ws da dc wa wc D W3 hE3 hc3 (by omega) h2 h3 hB hnb ho (by omega))
  have HWR := Lib.hid (ewrite_op B E C nb M ws.length s b W Dm tb q a u o hs rd bk X W3 _ _ _ hE3 hDk (by omega) hB ho (by omega) hX hb0 hb1 hnb.2 k1 k2 k3)
  generalize ws.length = k at *
  clear hE hD3 hDk hE3 hbx k1 k2 k3 hc hc3 h2 h3
  by_cases hk : k = 256
  · have hkk : ((k : Int) == 256) = true := by rw [hk]; rfl
    clear hk HWR
    go_enter Tryz.func92, Tryz.ntmps92
    go_wp2_with fail
    refine HBR.out.mono ?_
    rintro e w4 ⟨⟨v, rfl⟩, ⟨hE4, hD4, hb4, hk4⟩, hq4⟩
    obtain ⟨k1, k2, k3⟩ := HP3.out w4 hq4
    have b1 := cell_oneB k1
    have HWR := Lib.hid (ewrite_op B E C nb M 0 s b W Dm tb q a u (o + 1) hs rd bk X w4 _ _ _ hE4 hD4 (by omega) hB (by omega) (by omega) hX hb0 hb1 hnb.2 k1 k2 k3)
    have HB4 : Hid (Below B w w4 ∧ Kd (fun g => g = C ∨ g = M ∨ g = E) w w4) := ⟨HB3.out.1.trans (hb4), HB3.out.2.trans hk4⟩
    clear hE4 hD4 hb4 hk4 hq4 k1 k2 k3 HBR HP3 hW3
    go_wp2_with fail
    refine HWR.out.mono ?_
    rintro e w5 ⟨⟨v, rfl⟩, hE5, hD5, hb5, hk5⟩
    have HR : Hid (∃ o', o ≤ o' ∧ o' ≤ o + 2 ∧ EOp B w w5 E C nb M 256 s b W Dm tb q a u o' hs (updR rd bk X)) := ⟨o + 1 + 1, by omega, by omega, hE5, hD5.sum (by omega), HB4.out.1.trans hb5, HB4.out.2.trans hk5⟩
    clear hE5 hD5 hb5 hk5 HWR
    go_wp2
    go_end0
    exact ⟨⟨_, rfl⟩, HR.out⟩
  · have hkk : ((k : Int) == 256) = false := by rw [beq_eq_false_iff_ne]; omega
    clear HBR HP3
    go_enter Tryz.func92, Tryz.ntmps92
    go_wp2_with fail
    refine HWR.out.mono ?_
    rintro e w5 ⟨⟨v, rfl⟩, hE5, hD5, hb5, hk5⟩
    have HR : Hid (∃ o', o ≤ o' ∧ o' ≤ o + 2 ∧ EOp B w w5 E C nb M 256 s b W Dm tb q a u o' hs (updR rd bk X)) := ⟨o + 1, by omega, by omega, hE5, hD5.sum (by omega), HB3.out.1.trans hb5, HB3.out.2.trans hk5⟩
    clear hE5 hD5 hb5 hk5 HWR
    go_wp2
    go_end0
    exact ⟨⟨_, rfl⟩, HR.out⟩
end Go.Proofs.YtonpdbajoidigaaGreatDoor

/-
  FnSpace: the engine's counts; a block appended.
-/
namespace Go.Proofs.YtonpdbajoidigaaGreatDoor
open Go.RowKit
set_option linter.unusedSimpArgs false
set_option linter.unusedVariables false

set_option maxHeartbeats 1000000 in
set_option maxRecDepth 100000 in
theorem ecounts_any (E C : Nat) (S : Nat) (b : Int) (W Dm : Nat) (ta : Option Addr) (tn tc : Nat) (es : List (Int × Bool)) (q a u o : Int) (hs : List Value) (w : World) (hE : EngAt w E C S b W Dm (.slice ta tn tc) q a u o hs) (ht : ERead w ta tn es) (hn : tn ≤ 2097152) (hv : vG (S : Int) b = true) :
    Calls Tryz.prog 96 #[.pointer (some ⟨E, 0, none⟩)] w fun e w' => ∃ a' c', e = .returned (.slice a' S c') ∧ IRow .i64 w' a' S (segL (logN S b) b es S tn) ∧ Below w.heap.size w w' := by
  have c1 := hE.c1
  have c2 := hE.c2
  have c10 := hE.c10
  have HS : Hid (Calls Tryz.prog 42 #[.slice ta tn tc, .agg #[.int .i64 (S : Int), .int .i64 b]] w.drew fun e w' => ∃ a' c', e = .returned (.slice a' S c') ∧ IRow .i64 w' a' S (segL (logN S b) b es S tn) ∧ Below w.heap.size w w') := (segCounts_good ta tn tc es S b w.drew (ht.below (Below.refl _ _).drew) hn hv).mono fun e w' ⟨a', c', h1, h2, h3⟩ => ⟨a', c', h1, h2.read, (Below.refl _ _).drew.trans h3⟩
  clear ht
  go_enter Tryz.func96, Tryz.ntmps96
  go_wp2_with fail
  go_region_law (first
    | (go_simp; go_at_call 42; refine HS.out.mono ?_; rintro e w1 ⟨a', c', rfl, hr, hb⟩; have HR := Lib.hid (And.intro hr hb); clear hr hb))
  all_goals
    go_wp2
    go_ret
    exact ⟨_, _, rfl, HR.out⟩
/-- The table's row. -/
def TAt (B : Nat) (w : World) (gt tc n : Nat) (es : List (Int × Bool)) : Prop := w.ownsRow B 164 2 (.slice (some ⟨gt, 0, none⟩) n tc) n (eC es)
theorem TAt.read {B : Nat} {w : World} {gt tc n : Nat} {es : List (Int × Bool)} (h : TAt B w gt tc n es) : ERead w (some ⟨gt, 0, none⟩) n es := by
  obtain ⟨a, c, e, he⟩ := owns_e h
  injection e with e1 e2 e3
  subst e1
  exact he.read
theorem TAt.len {B : Nat} {w : World} {gt tc n : Nat} {es : List (Int × Bool)} (h : TAt B w gt tc n es) : es.length = n := by
  have := h.1
  rw [eC_len] at this
  omega
theorem TAt.tag {B : Nat} {w : World} {gt tc n : Nat} {es : List (Int × Bool)} (h : TAt B w gt tc n es) : ∃ cur, w.heap[gt]? = some (.cells cur 164 (0, 0)) := owns_tag h rfl
theorem TAt.kd {S : Nat → Prop} {B : Nat} {w w' : World} {gt tc n : Nat} {es : List (Int × Bool)} (h : TAt B w gt tc n es) (hk : Kd S w w') (hS : ¬ S gt) : TAt B w' gt tc n es := by
  obtain ⟨cur, hc⟩ := h.tag
  have hc' := hk.obj gt _ hc hS (fun k => by
    rcases k with ⟨c, f, k⟩ | ⟨c, f, k⟩
    · cases k
    · cases k)
  refine ⟨h.1, ?_⟩
  rcases h.2 with ⟨e1, _⟩ | ⟨g', cap, cur', e1, hB, hh, hcap, hmx, hcs, htk⟩
  · cases e1
  injection e1 with e1 e2 e3
  injection e1 with e1
  injection e1 with e1
  subst e1; subst e3
  rw [hh] at hc
  injection hc with hc
  injection hc with hc
  subst hc
  exact .inr ⟨gt, tc, _, rfl, hB, hc', hcap, hmx, hcs, htk⟩
theorem eC_set (es : List (Int × Bool)) : ∀ (k : Nat) (x : Int) (y : Bool), k < es.length → spl (eC es) (k * 2) [.int .i64 x, .bool y] = eC (es.set k (x, y)) := by
  induction es with
  | nil => intro k x y h; simp at h
  | cons e r ih =>
    intro k x y h
    have hc : ∀ (e : Int × Bool) r, eC (e :: r) = [.int .i64 e.1, .bool e.2] ++ eC r := fun e r => by simp [eC]
    cases k with
    | zero => simp [spl, hc]
    | succ k =>
      have := ih k x y (by simpa using h)
      rw [hc, List.set_cons_succ, hc, ← this]
      show List.take ((k + 1) * 2) (Value.int .i64 e.1 :: .bool e.2 :: eC r) ++ [Value.int .i64 x, .bool y] ++ List.drop ((k + 1) * 2 + 2) (Value.int .i64 e.1 :: .bool e.2 :: eC r) = Value.int .i64 e.1 :: .bool e.2 :: (List.take (k * 2) (eC r) ++ [Value.int .i64 x, .bool y] ++ List.drop (k * 2 + 2) (eC r))
      rw [show (k + 1) * 2 + 2 = k * 2 + 2 + 1 + 1 by omega, show (k + 1) * 2 = k * 2 + 1 + 1 by omega]
      simp only [List.take_succ_cons, List.drop_succ_cons, List.cons_append]
theorem setCells_two (w : World) (g o : Nat) (x y : Value) : w.setCells g o [x, y] = (w.setCell ⟨g, o, none⟩ x).setCell ⟨g, o + 1, none⟩ y := by
  simp [World.setCells]
theorem TAt.set {B : Nat} {w : World} {gt tc n : Nat} {es : List (Int × Bool)} (h : TAt B w gt tc n es) (k : Nat) (hk : k < n) (x : Int) (y : Bool) : TAt B ((w.setCell ⟨gt, k * 2, none⟩ (.int .i64 x)).setCell ⟨gt, k * 2 + 1, none⟩ (.bool y)) gt tc n (es.set k (x, y)) := by
  have := owns_setCells h (k * 2) (vs := [.int .i64 x, .bool y]) (by simp; omega)
  rw [setCells_two, eC_set es k x y (by rw [h.len]; exact hk)] at this
  exact this
end Go.Proofs.YtonpdbajoidigaaGreatDoor

/-
  FnSpace: the engine appends a block.
-/
namespace Go.Proofs.YtonpdbajoidigaaGreatDoor
open Go.RowKit
set_option linter.unusedSimpArgs false
set_option linter.unusedVariables false

/-- The engine behind a block appended. -/
def EApp (B : Nat) (w w' : World) (E C nb M : Nat) (S : Nat) (b : Int) (W Dm gt tc n : Nat) (es : List (Int × Bool)) (q a u o : Int) (hs : List Value) (rd : Int → List Int) : Prop :=
  EngAt w' E C S b W Dm (.slice (some ⟨gt, 0, none⟩) n tc) q a u o hs ∧ DS B w' C nb M 256 rd ∧ TAt B w' gt tc n es ∧ Below B w w' ∧ Kd (fun g => g = C ∨ g = M ∨ g = E ∨ g = gt) w w'
theorem EngAt.drew {w : World} {E C : Nat} {s b : Int} {W Dm : Nat} {tb : Value} {q a u o : Int} {hs : List Value} (h : EngAt w E C s b W Dm tb q a u o hs) (d : Nat) : EngAt (w.drewN d) E C s b W Dm tb q a u o hs := h
theorem DS.drew {B : Nat} {w : World} {C nb M m : Nat} {rd : Int → List Int} (h : DS B w C nb M m rd) (d : Nat) : DS B (w.drewN d) C nb M m rd := h.kd (S := fun _ => False) (below_drewN (Below.refl _ _) d)
theorem TAt.drew {B : Nat} {w : World} {gt tc n : Nat} {es : List (Int × Bool)} (h : TAt B w gt tc n es) (d : Nat) : TAt B (w.drewN d) gt tc n es := h
theorem vG_bounds {s b : Int} (h : vG s b = true) : 4 ≤ s ∧ s ≤ 64 ∧ 2 ≤ b ∧ b ≤ 16 := by
  unfold vG at h
  simp only [Bool.and_eq_true, decide_eq_true_iff] at h
  exact h
set_option maxHeartbeats 4000000 in
set_option maxRecDepth 100000 in
theorem append_tail (B E C nb M : Nat) (S : Nat) (b : Int) (W Dm gt tc n : Nat) (es : List (Int × Bool)) (q a u o : Int) (hs : List Value) (rd : Int → List Int) (lid : Nat) (X : List Int) (ino : Bool) (w : World)
    (hE : EngAt w E C S b W Dm (.slice (some ⟨gt, 0, none⟩) n tc) q a u o hs) (hD : DS B w C nb M 256 rd) (hT : TAt B w gt tc n es) (hB : B ≤ E) (hv : vG (S : Int) b = true) (hnb : (nb : Int) = logN S b + S * b) (hn : n ≤ 4096) (hX : X.length = 64) (hl : 1 ≤ lid) (hl' : lid ≤ n) (ho : 0 ≤ o) (ho' : o ≤ 2305843009213693952)
    (ha : a = -1 → False) (ha0 : 0 ≤ a) (ha1 : a < S) (hu0 : 0 ≤ u) (hu1 : u < b) :
    Calls Tryz.prog 81 #[.pointer (some ⟨E, 0, none⟩), .int .i64 lid, .agg (u8s X).toArray, .bool ino] w fun e w' => (∃ v, e = .returned v) ∧ ∃ o', o ≤ o' ∧ o' ≤ o + 2 ∧ EApp B w w' E C nb M S b W Dm gt tc n (es.set (lid - 1) (logN S b + a * b + u, ino)) q a (u + 1) o' hs (updR rd (logN S b + a * b + u) X) := by
  obtain ⟨W1, hW1⟩ : ∃ W1, w.alloc (.cells (u8s X).toArray 74) = W1 := ⟨_, rfl⟩
  have hb1 : Below w.heap.size w W1 := by rw [← hW1]; exact (Below.refl _ _).alloc (Nat.le_refl _) _
  have k1 : W1.heap[w.heap.size]? = some (.cells (u8s X).toArray 74 (0, 0)) := by rw [← hW1]; exact heap_alloc_new w _
  have hE1 : EngAt W1 E C S b W Dm (.slice (some ⟨gt, 0, none⟩) n tc) q a u o hs := (hb1.block E hE.lt).trans hE
  have hlE := hE1.lt
  have e1 : (a == -1) = false := by rw [beq_eq_false_iff_ne]; exact fun h => ha h
  have e2 : (u == b) = false := by rw [beq_eq_false_iff_ne]; omega
  have c1 := hE1.c1
  have c2 := hE1.c2
  have c5 := hE1.c5
  have c12 := hE1.c12
  have c13 := hE1.c13
  have hg := vG_bounds hv
  obtain ⟨hL0, hL1⟩ := logN_bounds hv
  obtain ⟨p, hp⟩ : ∃ p, a * b = p := ⟨_, rfl⟩
  have hp0 : 0 ≤ p := by rw [← hp]; exact Int.mul_nonneg ha0 (by omega)
  have hp1 : p + b ≤ S * b := by rw [← hp]; have : (a + 1) * b ≤ S * b := Int.mul_le_mul_of_nonneg_right (by omega) (by omega); rw [Int.add_mul] at this; omega
  have hS : (S : Int) * b ≤ 1024 := by have : (S : Int) * b ≤ 64 * 16 := Int.mul_le_mul (by omega) (by omega) (by omega) (by omega); omega
  rw [hp]
  generalize hLL : logN (S : Int) b = L at *
  have HW : Hid (∀ d, Calls Tryz.prog 92 #[.pointer (some ⟨E, 0, none⟩), .int .i64 (L + p + u), .agg (u8s X).toArray] (W1.drewN d) fun e w' => (∃ v, e = .returned v) ∧ ∃ o', o ≤ o' ∧ o' ≤ o + 2 ∧ EOp B (W1.drewN d) w' E C nb M 256 S b W Dm (.slice (some ⟨gt, 0, none⟩) n tc) q a u o' hs (updR rd (L + p + u) X)) := fun d => ewrite_any B E C nb M S b W Dm _ q a u o hs rd (L + p + u) X (W1.drewN d) (hE1.drew d) ((hD.kd (S := fun _ => False) hb1).drew d) hB ho ho' hX (by omega) (by omega) (by omega)
  have rng := range_of_heap k1
  have HT : Hid (TAt B W1 gt tc n es) := hT.kd (S := fun _ => False) (Kd.of_below hb1) id
  have HB1 : Hid (Below B w W1 ∧ Kd (fun g => g = C ∨ g = M ∨ g = E ∨ g = gt) w W1) := ⟨hb1.mono (by have := hE.lt; omega), Kd.of_below hb1⟩
  have HNT : Hid (gt ≠ C ∧ gt ≠ M ∧ gt ≠ E) := by
    obtain ⟨cur, hc⟩ := HT.out.tag
    obtain ⟨xs, ws, da, dc, wa, wc, D, hcd, _⟩ := hD.kd (S := fun _ => False) hb1
    refine ⟨(hcd.neTag hc (by decide)).1, (hcd.neTag hc (by decide)).2, fun e => ?_⟩
    unfold EngAt at hE1
    rw [e, hE1] at hc
    cases hc
  have hXl : (u8s X).length = 64 := by rw [u8s_len, hX]
  clear hE hD hT hb1 k1 hv
  go_enter Tryz.func81, Tryz.ntmps81
  go_wp2
  go_quiet (fail)
  go_wp2
  go_quiet (fail)
  go_wp2_with (first
    | (refine wpList_load_mid rfl 74 _ rfl w.heap.size 0 rfl (u8s X) _ rng Tryz.underlying74 rfl (by rw [hXl]; exact infoBB) ?_)
    | fail)
  refine (HW.out _).mono ?_
  rintro e w2 ⟨⟨v, rfl⟩, o', ho1, ho2, hE2, hD2, hb2, hk2⟩
  have HB2 : Hid (Below B w w2 ∧ Kd (fun g => g = C ∨ g = M ∨ g = E ∨ g = gt) w w2) := ⟨(below_drewN HB1.out.1 _).trans hb2, (HB1.out.2.trans (Kd.of_below (below_drewN (Below.refl _ _) _))).trans (hk2.mono fun g hg => hg.elim .inl (fun x => x.elim (fun y => .inr (.inl y)) (fun y => .inr (.inr (.inl y)))))⟩
  have hT2 : TAt B w2 gt tc n es := (HT.out.drew _).kd hk2 (fun x => by
    obtain ⟨n1, n2, n3⟩ := HNT.out
    rcases x with x | x | x
    · exact n1 x
    · exact n2 x
    · exact n3 x)
  obtain ⟨W3, hW3⟩ : ∃ W3, w2.setCell ⟨E, 13, none⟩ (.int .i64 (u + 1)) = W3 := ⟨_, rfl⟩
  have hE3 : EngAt W3 E C S b W Dm (.slice (some ⟨gt, 0, none⟩) n tc) q a (u + 1) o' hs := by rw [← hW3]; exact hE2.setUsed (u + 1)
  have hk3 : Kept (fun g => g = E) w2 W3 := by rw [← hW3]; exact Kept.setCell w2 ⟨E, 13, none⟩ _ (fun g => g = E) rfl
  have hkd3 : Kd (fun g => g = C ∨ g = M ∨ g = E ∨ g = gt) w2 W3 := Kd.of_kept hk3 fun g hg => .inl (.inr (.inr (.inl hg)))
  have hT3 : TAt B W3 gt tc n es := hT2.kd (S := fun g => g = E) (Kd.of_kept hk3 fun g hg => .inl hg) HNT.out.2.2
  have c13 := hE2.c13
  have f13 := hE2.fz 13
  have d10 := hE3.c10
  have HW0 : Hid (∀ d, EApp B w (((W3.drewN d).setCell ⟨gt, (lid - 1) * 2, none⟩ (.int .i64 (L + p + u))).setCell ⟨gt, (lid - 1) * 2 + 1, none⟩ (.bool ino)) E C nb M S b W Dm gt tc n (es.set (lid - 1) (L + p + u, ino)) q a (u + 1) o' hs (updR rd (L + p + u) X)) := fun d => by
    have hT4 := (hT3.drew d).set (lid - 1) (by omega) (L + p + u) ino
    have kk : Kept (fun g => g = gt) (W3.drewN d) (((W3.drewN d).setCell ⟨gt, (lid - 1) * 2, none⟩ (.int .i64 (L + p + u))).setCell ⟨gt, (lid - 1) * 2 + 1, none⟩ (.bool ino)) := (Kept.setCell _ ⟨gt, _, none⟩ _ (fun g => g = gt) rfl).trans (Kept.setCell _ ⟨gt, _, none⟩ _ (fun g => g = gt) rfl)
    have kd : Kd (fun g => g = gt) (W3.drewN d) _ := Kd.of_kept kk fun g hg => .inl hg
    obtain ⟨n1, n2, n3⟩ := HNT.out
    have hcd : ∀ {xs ws dv wv D}, CD B w2 C nb xs ws dv wv M D → CD B (((W3.drewN d).setCell ⟨gt, (lid - 1) * 2, none⟩ (.int .i64 (L + p + u))).setCell ⟨gt, (lid - 1) * 2 + 1, none⟩ (.bool ino)) C nb xs ws dv wv M D := fun {xs ws dv wv D} hc => by
      have h3 : CD B W3 C nb xs ws dv wv M D := by rw [← hW3]; exact hc.setE hE2 13 _
      obtain ⟨cur, htg⟩ := hT3.tag
      refine (h3.below (below_drewN (Below.refl _ _) d)).kept kk (fun g hg e => ?_)
      subst e
      rcases hg with e | e | e | e
      · exact n1 e
      · exact n2 e
      · exact h3.neD htg (by decide) e
      · exact h3.neW htg (by decide) e
    have hlt : gt < (W3.drewN d).heap.size := by obtain ⟨cur, htg⟩ := hT3.tag; exact (Array.getElem?_eq_some_iff.1 htg).1
    have hBg : B ≤ gt := (hT3.lt gt rfl).1
    have hbl : Below B w2 W3 := hk3.below (by have := hE2.lt; omega) (fun g hg => by rw [hg]; exact hB)
    refine ⟨kd.eng (hE3.drew d) (fun e => n3 e.symm), ?_, hT4, (HB2.out.1.trans hbl).trans ((below_drewN (Below.refl _ _) d).trans (kk.below (Nat.le_trans hBg (Nat.le_of_lt hlt)) (fun g hg => by rw [hg]; exact hBg))), (HB2.out.2.trans hkd3).trans ((Kd.of_below (below_drewN (Below.refl _ _) d)).trans (kd.mono fun g hg => .inr (.inr (.inr hg))))⟩
    obtain ⟨xs, ws, da, dc, wa, wc, D, hc, h1, h2, h3⟩ := hD2
    exact ⟨xs, ws, da, dc, wa, wc, D, hcd hc, h1, h2, h3⟩
  have tcell : (W3.cell? ⟨gt, (lid - 1) * 2, none⟩ = some (.int .i64 (eA es (lid - 1))) ∧ W3.frozen? ⟨gt, (lid - 1) * 2, none⟩ = false) ∧ W3.cell? ⟨gt, (lid - 1) * 2 + 1, none⟩ = some (.bool (eI es (lid - 1))) ∧ W3.frozen? ⟨gt, (lid - 1) * 2 + 1, none⟩ = false := by
    obtain ⟨a', c', e', he⟩ := owns_e hT3
    injection e' with e1' e2' e3'
    subst e1'
    rcases he.2 with h0 | ⟨g', off', e4, _, hcell⟩
    · omega
    injection e4 with e4
    injection e4 with e5 e6
    subst e5; subst e6
    have := hcell (lid - 1) (by omega)
    rw [Nat.zero_add] at this
    exact this
  obtain ⟨⟨t1, t2⟩, t3, t4⟩ := tcell
  have hlid : ((lid : Int) - 1).toNat = lid - 1 := by omega
  have hli0 : (0 : Int) ≤ (lid : Int) - 1 := by omega
  have hli1 : (lid : Int) - 1 < (n : Int) := by omega
  clear hE2 hD2 hb2 hk2 hT2 hk3 hkd3 hT3 hE3 HW HT HB1 HNT rng
  go_wp2
  go_end0
  exact ⟨⟨_, rfl⟩, o', ho1, ho2, HW0.out 0⟩
end Go.Proofs.YtonpdbajoidigaaGreatDoor
