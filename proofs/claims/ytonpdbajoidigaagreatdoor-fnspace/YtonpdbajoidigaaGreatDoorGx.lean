/-
  Sqg, Sqj, Sqh, Sqi, Sqk, Srg.
-/
import Derived.Test.YtonpdbajoidigaaGreatDoorGw
import Derived.Test.YtonpdbajoidigaaGreatDoorGq
import Derived.Test.YtonpdbajoidigaaGreatDoorSrf
/-
  FnSpace: the engine's state; frames.
-/
namespace Go.Proofs.YtonpdbajoidigaaGreatDoor
open Go.RowKit
set_option linter.unusedSimpArgs false
set_option linter.unusedVariables false

/-- What of an engine stays. -/
structure Cx where
  B : Nat
  E : Nat
  C : Nat
  nb : Nat
  M : Nat
  S : Nat
  b : Int
  W : Nat
  n : Nat
  hs : List Value
def hndV (E : Nat) (F : FuncId) : Value := .func (.func F) #[.pointer (some ⟨E, 0, none⟩)] #[]
structure Cx.Ok (K : Cx) : Prop where
  hB : K.B ≤ K.E
  hB0 : 0 < K.B
  hv : vG (K.S : Int) K.b = true
  hnb : (K.nb : Int) = logN K.S K.b + K.S * K.b
  hn : (K.n : Int) = K.S * K.b
  hWM : K.W ≠ K.M
  hWB : K.B ≤ K.W
  h1 : K.hs[1]? = some (hndV K.E 21)
  h2 : K.hs[2]? = some (hndV K.E 22)
  h4 : K.hs[4]? = some (hndV K.E 24)
  h6 : K.hs[6]? = some (hndV K.E 26)
theorem Cx.Ok.nb' {K : Cx} (h : K.Ok) : 8 ≤ K.n ∧ K.n ≤ 1024 ∧ 1 ≤ K.nb ∧ K.nb ≤ 4096 := by
  have h1 := h.hn
  have h2 := h.hnb
  have h3 := vG_mul h.hv
  have h4 := logN_bounds h.hv
  omega
structure St (K : Cx) (w : World) (Dm gt tc : Nat) (es : List (Int × Bool)) (q a u o : Int) (rd : Int → List Int) (ps ds : List FP) : Prop where
  eng : EngAt w K.E K.C K.S K.b K.W Dm (.slice (some ⟨gt, 0, none⟩) K.n tc) q a u o K.hs
  dsk : DS K.B w K.C K.nb K.M 256 rd
  tab : TAt K.B w gt tc K.n es
  inv : TInv (logN K.S K.b) K.b K.S K.n es a u
  hu : 0 ≤ u ∧ u ≤ K.b
  wrk : MF w K.W (ps.map (·.1))
  dur : MF w Dm (ds.map (·.1))
  ok : ∀ p ∈ ps, FOk w K.n p
  dw : Dm ≠ K.W
  dm : Dm ≠ K.M
  rules : RulesAt w
theorem eng_h {w : World} {E C : Nat} {s b : Int} {W Dm : Nat} {tb : Value} {q a u o : Int} {hs : List Value} (h : EngAt w E C s b W Dm tb q a u o hs) (k : Nat) : w.cell? ⟨E, 16 + k, none⟩ = hs[k]? := by
  rw [World.cell?, h]
  show (engL C s b W Dm tb q a u o hs).toArray[16 + k]? = _
  rw [List.getElem?_toArray, engL, List.getElem?_append_right (by simp)]
  simp
/-- The tags of blocks that no call of an engine changes. -/
def Tg (t : TypeId) : Prop := t ≠ 68 ∧ t ≠ 91 ∧ t ≠ 74 ∧ t ≠ 93 ∧ t ≠ 164
structure Fr (B : Nat) (w w' : World) : Prop where
  bel : Below B w w'
  tag : ∀ (p : Nat) (c : Array Value) (t : TypeId) (f : Nat × Nat), w.heap[p]? = some (.cells c t f) → Tg t → w'.heap[p]? = some (.cells c t f)
theorem Fr.refl (B : Nat) (w : World) : Fr B w w := ⟨Below.refl _ _, fun _ _ _ _ h _ => h⟩
theorem Fr.trans {B : Nat} {w w1 w2 : World} (h : Fr B w w1) (k : Fr B w1 w2) : Fr B w w2 := ⟨h.bel.trans k.bel, fun p c t f h1 h2 => k.tag p c t f (h.tag p c t f h1 h2) h2⟩
theorem Fr.of_below {B : Nat} {w w' : World} (h : Below w.heap.size w w') (hB : B ≤ w.heap.size) : Fr B w w' := ⟨h.mono hB, fun p c t f h1 _ => (h.block p (Array.getElem?_eq_some_iff.1 h1).1).trans h1⟩
theorem St.tr {K : Cx} {w V : World} {Dm gt tc : Nat} {es : List (Int × Bool)} {q a u o : Int} {rd : Int → List Int} {ps ds : List FP} (h : St K w Dm gt tc es q a u o rd ps ds) (hK : K.Ok) (hb : Below w.heap.size w V) : St K V Dm gt tc es q a u o rd ps ds :=
  have hlE := h.eng.lt
  ⟨(hb.block K.E h.eng.lt).trans h.eng, h.dsk.kd (S := fun _ => False) hb, h.tab.kd (S := fun _ => False) (Kd.of_below hb) id, h.inv, h.hu, h.wrk.kd (S := fun _ => False) (Kd.of_below hb) id, h.dur.kd (S := fun _ => False) (Kd.of_below hb) id, fun p hp => (h.ok p hp).below hb, h.dw, h.dm, h.rules.below hb (by omega)⟩
theorem St.keptT {K : Cx} {w V : World} {Dm gt tc : Nat} {es : List (Int × Bool)} {q a u o : Int} {rd : Int → List Int} {ps ds : List FP} (h : St K w Dm gt tc es q a u o rd ps ds) (hK : K.Ok) {N : Nat} {c : Array Value} {t : TypeId} {f : Nat × Nat} (hN : w.heap[N]? = some (.cells c t f)) (ht : Tg t) (ht' : t ≠ 2) (hNB : K.B ≤ N) (hk : Kept (fun g => g = N) w V) : St K V Dm gt tc es q a u o rd ps ds :=
  have hlE := h.eng.lt
  have hB := hK.hB
  ⟨(hk.block K.E hlE (fun e => by have := h.eng; unfold EngAt at this; rw [e, hN] at this; injection this with this; injection this with _ this; exact ht.1 this)).trans h.eng, h.dsk.keptT hN ht.2.1 ht.2.2.2.1 ht.2.2.1 hk, h.tab.keptT hN ht.2.2.2.2 hk, h.inv, h.hu, h.wrk.keptT hN hk, h.dur.keptT hN hk, fun p hp => (h.ok p hp).keptT hN ht' hk, h.dw, h.dm, h.rules.below (hk.below (B := K.B) (by omega) (fun g hg => by rw [hg]; exact hNB)) hK.hB0⟩
theorem tgA : Tg 42 := ⟨by decide, by decide, by decide, by decide, by decide⟩
theorem St.keptA {K : Cx} {w V : World} {Dm gt tc : Nat} {es : List (Int × Bool)} {q a u o : Int} {rd : Int → List Int} {ps ds : List FP} (h : St K w Dm gt tc es q a u o rd ps ds) (hK : K.Ok) {N : Nat} {c : Array Value} (hN : w.heap[N]? = some (.cells c 42 (0, 0))) (hNB : K.B ≤ N) (hk : Kept (fun g => g = N) w V) : St K V Dm gt tc es q a u o rd ps ds := h.keptT hK hN tgA (by decide) hNB hk
/-- A predicate of worlds that blocks of such tags leave. -/
def KeepsT (B : Nat) (P : World → Prop) : Prop := ∀ V' w' N c t f, P V' → V'.heap[N]? = some (.cells c t f) → (Tg t ∧ t ≠ 2) → B ≤ N → Kept (fun g => g = N) V' w' → P w'
theorem Fr.of_kd {K : Cx} {w w' : World} {Dm gt tc : Nat} {es : List (Int × Bool)} {q a u o : Int} {rd : Int → List Int} {ps ds : List FP} (h : St K w Dm gt tc es q a u o rd ps ds) (hb : Below K.B w w') (hk : Kd (fun g => g = K.C ∨ g = K.M ∨ g = K.E ∨ g = gt ∨ g = K.W) w w') : Fr K.B w w' :=
  ⟨hb, fun p c t f h1 ⟨t1, t2, t3, t4, t5⟩ => hk.obj p _ h1 (fun x => by
    have hn := h.dsk.neTag h1 t2
    rcases x with x | x | x | x | x
    · exact hn.1 x
    · exact hn.2 x
    · have := h.eng; unfold EngAt at this; rw [← x, h1] at this; injection this with this; injection this with _ this; exact t1 this
    · obtain ⟨cur, hc⟩ := h.tab.tag; rw [← x, h1] at hc; injection hc with hc; injection hc with _ hc; exact t5 hc
    · exact h.wrk.neE h1 x) (fun x => by
    rcases x with ⟨c', f', x⟩ | ⟨c', f', x⟩
    · injection x with _ x; exact t3 x
    · injection x with _ x; exact t4 x)⟩
/-- A call's frame around what it does. -/
def Wrap (R : World → World → Prop) (w w' : World) : Prop := ∃ (V V' : World) (N : Nat) (c : Array Value), Below w.heap.size w V ∧ R V V' ∧ w.heap.size ≤ N ∧ V'.heap[N]? = some (.cells c 42 (0, 0)) ∧ Kept (fun g => g = N) V' w'
theorem wrap_lift {B : Nat} {P : World → Prop} {w w' : World} (hB : B ≤ w.heap.size) (hP : ∀ V' w' N c, P V' → V'.heap[N]? = some (.cells c 42 (0, 0)) → B ≤ N → Kept (fun g => g = N) V' w' → P w') (h : Wrap (fun V V' => P V' ∧ Fr B V V') w w') : P w' ∧ Fr B w w' := by
  obtain ⟨V, V', N, c, h1, ⟨h2, h3⟩, h4, h5, h6⟩ := h
  refine ⟨hP V' w' N c h2 h5 (by omega) h6, ⟨((h1.mono hB).trans h3.bel).trans (h6.below (by have := h1.size; have := h3.bel.size; omega) (fun g hg => by omega)), fun p c t f k1 k2 => ?_⟩⟩
  have hp := (Array.getElem?_eq_some_iff.1 k1).1
  have k3 := h3.tag p c t f ((h1.block p hp).trans k1) k2
  exact (h6.block p (Array.getElem?_eq_some_iff.1 k3).1 (by omega)).trans k3
end Go.Proofs.YtonpdbajoidigaaGreatDoor

/-
  FnSpace: all calls.
-/
namespace Go.Proofs.YtonpdbajoidigaaGreatDoor
open Go.RowKit
set_option linter.unusedSimpArgs false
set_option linter.unusedVariables false

set_option maxHeartbeats 400000 in
theorem ops_nil (w : World) : Calls Tryz.prog 30 #[.nilIface] w fun e w' => e = .returned (.bool false) ∧ w' = w := by
  go_enter Tryz.func30, Tryz.ntmps30
  go_wp2
  go_ret
  exact ⟨rfl, rfl⟩
set_option maxHeartbeats 400000 in
theorem catchA_idle (g : Nat) (x : Value) (w : World) (hc : w.cell? ⟨g, 0, none⟩ = some x) (hf : w.frozen? ⟨g, 0, none⟩ = false) :
    CallsD Tryz.prog 29 #[.pointer (some ⟨g, 0, none⟩)] .returning w fun e u' w' => e = .returned (.tuple #[]) ∧ u' = .returning ∧ w' = w.setCell ⟨g, 0, none⟩ (.bool false) := by
  refine callsD_of_wpS Tryz.func29 rfl fun c₀ cs hu => ?_
  apply wpS_region
  simp [wpOpsS, go_sem, recoverD, hu, Tryz.ntmps29, Exit.thenS]
  refine (ops_nil w).mono ?_
  rintro e w1 ⟨rfl, rfl⟩
  simp [wpOpsS, go_sem, hc, hf]
  cases c₀
  simp_all [bodyPostS, results, Tryz.results29]
theorem info_ans : (Tryz.prog.info? 42).map (fun i => (i.zero, i.size, i.bytes)) = some (some (.agg #[.int .i64 0, .string ⟨#[]⟩, .slice none 0 0, .int .i64 0, .int .i64 0, .int .i64 0, .int .i64 0, .int .i64 0, .int .i64 0]), 9, 96) := by kernel_rfl
def ansL (an : Nat → Int × ByteArray) (k : Nat) : List Value := (List.range k).flatMap fun j => (ansV (an j).1 (an j).2).toList
theorem ansL_succ (an : Nat → Int × ByteArray) (k : Nat) : ansL an (k + 1) = ansL an k ++ (ansV (an k).1 (an k).2).toList := by
  unfold ansL
  rw [List.range_succ, List.flatMap_append]
  simp
theorem ansV_len (c : Int) (d : ByteArray) : (ansV c d).toList.length = 9 := rfl
theorem ansV_one (c : Int) (d : ByteArray) : ∀ u ∈ (ansV c d).toList, u.oneCell' = true := by
  intro u hu
  simp [ansV] at hu
  rcases hu with rfl | rfl | rfl | rfl <;> rfl
theorem four_set {W : World} {g : Nat} {a0 a1 a2 a3 : Value} {t : TypeId} (h : W.heap[g]? = some (.cells #[a0, a1, a2, a3] t (0, 0))) (b0 b1 b2 b3 : Value) : ((((W.setCell ⟨g, 0, none⟩ b0).setCell ⟨g, 1, none⟩ b1).setCell ⟨g, 2, none⟩ b2).setCell ⟨g, 3, none⟩ b3).heap[g]? = some (.cells #[b0, b1, b2, b3] t (0, 0)) := by
  simp [World.setCell, Array.getElem?_modify, h]
theorem owns_fr {B : Nat} {w w' : World} {b n : Nat} {v : Value} {xs : List Value} (h : w.ownsRow b 42 9 v n xs) (hf : Fr B w w') : w'.ownsRow b 42 9 v n xs := by
  refine ⟨h.1, h.2.imp id ?_⟩
  rintro ⟨g, cap, cur, e1, hB, hg, rest⟩
  exact ⟨g, cap, cur, e1, hB, hf.tag g _ _ _ hg tgA, rest⟩
theorem fr_kept {B : Nat} {w w' : World} {N : Nat} (hN : B ≤ N) (hB : B ≤ w.heap.size) (hk : Kept (fun g => g = N) w w') {w0 : World} (h : Fr B w0 w) (h0 : w0.heap.size ≤ N) : Fr B w0 w' :=
  ⟨h.bel.trans (hk.below hB (fun g hg => by omega)), fun p c t f h1 h2 => by
    have h3 := h.tag p c t f h1 h2
    have hp := (Array.getElem?_eq_some_iff.1 h1).1
    exact (hk.block p (Array.getElem?_eq_some_iff.1 h3).1 (by omega)).trans h3⟩
theorem owns_shape9 {w : World} {b n : Nat} {v : Value} {xs : List Value} (h : w.ownsRow b 42 9 v n xs) : ∃ a c, v = .slice a n c := by
  obtain ⟨hl, h⟩ := h
  rcases h with ⟨rfl, h0⟩ | ⟨g, cap, cur, rfl, _⟩
  · subst h0; exact ⟨_, _, rfl⟩
  · exact ⟨_, _, rfl⟩
theorem owns_keptA {w w' : World} {b b' N n : Nat} {v : Value} {xs : List Value} (h : w.ownsRow b 42 9 v n xs) (hk : Kept (fun g => g = N) w w') (hN : N < b) (hb : b' ≤ b) : w'.ownsRow b' 42 9 v n xs := by
  refine ⟨h.1, h.2.imp id ?_⟩
  rintro ⟨g, cap, cur, e1, hB, hg, rest⟩
  exact ⟨g, cap, cur, e1, by omega, (hk.block g (Array.getElem?_eq_some_iff.1 hg).1 (by omega)).trans hg, rest⟩
theorem grown_step {B : Nat} {P : World → Prop} (hbel : ∀ V V', P V → Below V.heap.size V V' → P V') (hkt : KeepsT B P) {w w4 w9 : World} {o x : Obj} {v : Value} {n : Nat} {xs : List Value} (hP : P w4) (hf : Fr B w w4) (hB : B ≤ w.heap.size) (own : w4.ownsRow (w.heap.size + 1) 42 9 v n xs) (hg : (w4.alloc o).grownBy w9 v.ownBlock) (hks : w4.heap[w.heap.size]? = some x) :
    P w9 ∧ Fr B w w9 ∧ w9.heap[w.heap.size]? = some x := by
  have hb : Below w4.heap.size w4 (w4.alloc o) := (Below.refl w4.heap.size w4).alloc (Nat.le_refl _) o
  have hl := (Array.getElem?_eq_some_iff.1 hks).1
  have P' := hbel _ _ hP hb
  have F' := hf.trans (Fr.of_below hb (by omega))
  have hk0 := (hb.block _ hl).trans hks
  have hsz := hb.size
  rcases own.2 with ⟨rfl, _⟩ | ⟨g, cap, cur, rfl, hBg, hgc, _⟩
  · have hk : Kept (fun _ => False) (w4.alloc o) w9 := ⟨hg.os, hg.tape, hg.output, hg.size, fun j hj _ => hg.block j hj (fun e => by cases e)⟩
    have hb9 : Below (w4.alloc o).heap.size (w4.alloc o) w9 := hk.below (Nat.le_refl _) (fun g hg => hg.elim)
    exact ⟨hbel _ _ P' hb9, F'.trans (Fr.of_below hb9 (by omega)), (hb9.block _ (by omega)).trans hk0⟩
  · have hk : Kept (fun x => x = g) (w4.alloc o) w9 := ⟨hg.os, hg.tape, hg.output, hg.size, fun j hj hne => hg.block j hj (fun e => hne (by injection e))⟩
    have hgl := (Array.getElem?_eq_some_iff.1 hgc).1
    exact ⟨hkt _ _ g cur _ _ P' ((hb.block g hgl).trans hgc) ⟨tgA, by decide⟩ (by omega) hk, fr_kept (by omega) (by omega) hk F' (by omega), (hk.block _ (by omega) (by omega)).trans hk0⟩
set_option maxRecDepth 100000 in
set_option maxHeartbeats 4000000 in
theorem answerAll_any (B E ga ca KK : Nat) (cs : Nat → Nat × ByteArray × ByteArray) (an : Nat → Int × ByteArray) (I : Nat → World → Prop) (w : World)
    (hrow : ∃ cur, w.heap[ga]? = some (.cells cur 29 (0, 0))) (hcell : ∀ j, j < KK → w.cell? ⟨ga, j * 4, none⟩ = some (.int .i64 ((cs j).1 : Int)) ∧ w.cell? ⟨ga, j * 4 + 1, none⟩ = some (.string (cs j).2.1) ∧ w.cell? ⟨ga, j * 4 + 2, none⟩ = some (.string (cs j).2.2) ∧ w.cell? ⟨ga, j * 4 + 3, none⟩ = some (.int .i64 0)) (hKK : KK ≤ 1000)
    (hB : B ≤ w.heap.size) (h0 : I 0 w) (hbelow : ∀ j V V', I j V → Below V.heap.size V V' → I j V') (hkeep : ∀ j, KeepsT B (I j))
    (hstep : ∀ j, j < KK → ∀ V, I j V → Calls Tryz.prog 31 #[.pointer (some ⟨E, 0, none⟩), .agg (callV (cs j).1 (cs j).2.1 (cs j).2.2)] V fun e w' => e = .returned (.agg (ansV (an j).1 (an j).2)) ∧ I (j + 1) w' ∧ Fr B V w') :
    Calls Tryz.prog 10 #[.pointer (some ⟨E, 0, none⟩), .slice (some ⟨ga, 0, none⟩) KK ca] w fun e w' => ∃ v, e = .returned (.tuple #[v, .bool false]) ∧ w'.ownsRow w.heap.size 42 9 v KK (ansL an KK) ∧ I KK w' ∧ Fr B w w' := by
  obtain ⟨i0, hi, hz0, hz1, hz2⟩ := info_parts info_ans
  obtain ⟨W1, hW1⟩ : ∃ W1, w.alloc (.cells #[.bool false] 4) = W1 := ⟨_, rfl⟩
  have hb1 : Below w.heap.size w W1 := by rw [← hW1]; exact (Below.refl _ _).alloc (Nat.le_refl _) _
  have k1 : W1.heap[w.heap.size]? = some (.cells #[.bool false] 4 (0, 0)) := by rw [← hW1]; exact heap_alloc_new w _
  have l1 : w.heap.size < W1.heap.size := (Array.getElem?_eq_some_iff.1 k1).1
  have H0 : Hid (W1.ownsRow (w.heap.size + 1) 42 9 (.slice none 0 0) 0 (ansL an 0) ∧ I 0 W1 ∧ Fr B w W1 ∧ W1.heap[w.heap.size]? = some (.cells #[.bool false] 4 (0, 0))) := ⟨World.ownsRow_nil _ _ _ _, hbelow 0 _ _ h0 hb1, Fr.of_below hb1 hB, k1⟩
  have HST := Lib.hid (And.intro hstep (And.intro hbelow hkeep))
  have HCL := Lib.hid (And.intro hrow hcell)
  clear hstep hbelow hkeep hrow hcell h0 k1 hb1
  go_enter_defers Tryz.func10, Tryz.ntmps10
  go_wp2
  go_loopw [4, 11] (fun v i wr => ∃ k : Nat, k ≤ KK ∧ i = .int .i64 k ∧ ∃ a c, v = .slice a k c ∧ Hid (wr.ownsRow (w.heap.size + 1) 42 9 (.slice a k c) k (ansL an k) ∧ I k wr ∧ Fr B w wr ∧ wr.heap[w.heap.size]? = some (.cells #[.bool false] 4 (0, 0)))) (fun _ i _ => KK - (intOf i).toNat)
  case atStart => exact ⟨0, Nat.zero_le _, rfl, none, 0, rfl, H0⟩
  case round =>
    obtain ⟨k, hk, rfl, av, cv, rfl, HS⟩ := hrel
    clear H0
    have hst := HS.out.2.2.2
    have lst := (Array.getElem?_eq_some_iff.1 hst).1
    by_cases hlt : k < KK
    · have hlt' : (k : Int) < (KK : Int) := by omega
      have h0' : (0 : Int) ≤ (k : Int) := by omega
      have hkt : ((k : Int)).toNat = k := by omega
      obtain ⟨⟨cur, hcur⟩, hcell⟩ := HCL.out
      have hga := HS.out.2.2.1.tag ga cur _ _ hcur ⟨by decide, by decide, by decide, by decide, by decide⟩
      have hcw : ∀ i, wr.cell? ⟨ga, i, none⟩ = w.cell? ⟨ga, i, none⟩ := fun i => by rw [World.cell?, World.cell?, hga, hcur]
      obtain ⟨c0, c1, c2, c3⟩ := hcell k hlt
      rw [← hcw] at c0 c1 c2 c3
      have HAN := HST.out.1 k hlt
      have HSX := ansL_succ an k
      generalize (cs k).1 = kd at *
      generalize (cs k).2.1 = nm at *
      generalize (cs k).2.2 = dt at *
      generalize (an k).1 = cx at *
      generalize (an k).2 = dx at *
      replace HSX := Lib.hid HSX
      obtain ⟨W2, hW2⟩ : ∃ W2, wr.alloc (.cells #[.int .i64 0, .string ⟨#[]⟩, .string ⟨#[]⟩, .int .i64 0] 29) = W2 := ⟨_, rfl⟩
      have hb2 : Below wr.heap.size wr W2 := by rw [← hW2]; exact (Below.refl _ _).alloc (Nat.le_refl _) _
      have k2 : W2.heap[wr.heap.size]? = some (.cells #[.int .i64 0, .string ⟨#[]⟩, .string ⟨#[]⟩, .int .i64 0] 29 (0, 0)) := by rw [← hW2]; exact heap_alloc_new wr _
      have l2 : wr.heap.size < W2.heap.size := (Array.getElem?_eq_some_iff.1 k2).1
      obtain ⟨⟨y0, y1, y2, y3⟩, f0, f1, f2, f3⟩ := four_ofF k2
      obtain ⟨W3, hW3⟩ : ∃ W3, (((W2.setCell ⟨wr.heap.size, 0, none⟩ (.int .i64 (kd : Int))).setCell ⟨wr.heap.size, 1, none⟩ (.string nm)).setCell ⟨wr.heap.size, 2, none⟩ (.string dt)).setCell ⟨wr.heap.size, 3, none⟩ (.int .i64 0) = W3 := ⟨_, rfl⟩
      have k3 : W3.heap[wr.heap.size]? = some (.cells #[.int .i64 (kd : Int), .string nm, .string dt, .int .i64 0] 29 (0, 0)) := by rw [← hW3]; exact four_set k2 _ _ _ _
      have hb3 : Below wr.heap.size wr W3 := by
        rw [← hW3]
        exact (((hb2.setCell (p := ⟨wr.heap.size, 0, none⟩) (Nat.le_refl _) _).setCell (p := ⟨wr.heap.size, 1, none⟩) (Nat.le_refl _) _).setCell (p := ⟨wr.heap.size, 2, none⟩) (Nat.le_refl _) _).setCell (p := ⟨wr.heap.size, 3, none⟩) (Nat.le_refl _) _
      obtain ⟨⟨u0, u1, u2, u3⟩, _⟩ := four_ofF k3
      have l3 : wr.heap.size < W3.heap.size := (Array.getElem?_eq_some_iff.1 k3).1
      have hBr : B ≤ wr.heap.size := by have := HS.out.2.2.1.bel.size; omega
      have HCA : Hid (Calls Tryz.prog 31 #[.pointer (some ⟨E, 0, none⟩), .agg #[.int .i64 (kd : Int), .string nm, .string dt, .int .i64 0]] W3 fun e w' => e = .returned (.agg #[.int .i64 cx, .string dx, .slice none 0 0, .int .i64 0, .int .i64 0, .int .i64 0, .int .i64 0, .int .i64 0, .int .i64 0]) ∧ I (k + 1) w' ∧ Fr B W3 w') := HAN W3 (HST.out.2.1 k _ _ HS.out.2.1 hb3)
      have HB3 := Lib.hid hb3
      have HHW : Hid (w.heap.size < wr.heap.size) := lst
      clear HAN hcell hcur hga hcw k2 k3 hb2 hb3 hst
      go_wp2_with fail
      refine HCA.out.mono ?_
      rintro e w4 ⟨rfl, hI4, hf4⟩
      have own4 := owns_fr (owns_fr HS.out.1 (Fr.of_below HB3.out hBr)) hf4
      have HFR : Hid (Fr B w w4) := (HS.out.2.2.1.trans (Fr.of_below HB3.out hBr)).trans hf4
      have HKS : Hid (w4.heap[w.heap.size]? = some (.cells #[.bool false] 4 (0, 0))) := hf4.tag _ _ _ _ ((HB3.out.block _ HHW.out).trans HS.out.2.2.2) ⟨by decide, by decide, by decide, by decide, by decide⟩
      have HI4 := Lib.hid hI4
      have hs4 : w.heap.size + 1 ≤ w4.heap.size := by have := (Array.getElem?_eq_some_iff.1 HKS.out).1; omega
      clear hI4 hf4 HCA HB3 HHW HS c0 c1 c2 c3 y0 y1 y2 y3 f0 f1 f2 f3 u0 u1 u2 u3 hW2 hW3 l2 l3 lst
      go_wp2_with (at_builtin; refine wpList_append_own _ rfl _ _ 30 rfl (w.heap.size + 1) 42 i0 (.agg #[.int .i64 0, .string ⟨#[]⟩, .slice none 0 0, .int .i64 0, .int .i64 0, .int .i64 0, .int .i64 0, .int .i64 0, .int .i64 0]) 9 96 Tryz.underlying30 hi hz0 hz1 hz2 rfl (by decide) _ _ _ rfl (own4.alloc _) ⟨w4.heap.size, 0, none⟩ 1 1 (ansV cx dx).toList rfl rfl (cells_new w4 (ansV cx dx).toList 42) (ansV_one cx dx) (by unfold maxLen; omega) (by omega) (by simp; omega) ?_)
      intro v' w9 hown9 hg9 _
      obtain ⟨a9, c9, rfl⟩ := owns_shape9 hown9
      have HN : Hid (w9.ownsRow (w.heap.size + 1) 42 9 (.slice a9 (k + 1) c9) (k + 1) (ansL an (k + 1)) ∧ I (k + 1) w9 ∧ Fr B w w9 ∧ w9.heap[w.heap.size]? = some (.cells #[.bool false] 4 (0, 0))) := by
        refine ⟨?_, grown_step (HST.out.2.1 (k + 1)) (HST.out.2.2 (k + 1)) HI4.out HFR.out hB own4 hg9 HKS.out⟩
        rw [HSX.out]
        exact hown9
      clear hown9 hg9 own4 HFR HKS HI4 HSX
      go_wp2
      go_roundw
      case rel => exact ⟨k + 1, by omega, by go_num, _, _, rfl, HN⟩
      case measure => simp [intOf]; omega
    · obtain rfl : k = KK := by omega
      have s0 := cell_oneB hst
      have sf : wr.frozen? ⟨w.heap.size, 0, none⟩ = false := by simp [World.frozen?, hst]
      have HF := HS
      clear hst HS
      go_wp2
      refine leaves_cons (f := 29) (args := #[.pointer (some ⟨w.heap.size, 0, none⟩)]) (by simp) (by simp [go_sem]) ?_
      refine (catchA_idle w.heap.size (.bool false) _ (by simp [go_sem, s0]) (by simp [go_sem, sf])).mono ?_
      rintro e u' w'' ⟨rfl, rfl, rfl⟩
      simp [Leaves, settle, results, Tryz.results10, go_sem, s0]
      obtain ⟨h1, h2, h3, h4⟩ := HF.out
      have hk2 : Kept (fun g => g = w.heap.size) wr ((wr.setCell ⟨w.heap.size, 0, none⟩ (.bool false)).setCell ⟨w.heap.size, 0, none⟩ (.bool false)) := (Kept.setCell wr ⟨w.heap.size, 0, none⟩ (.bool false) (fun g => g = w.heap.size) rfl).trans (Kept.setCell _ ⟨w.heap.size, 0, none⟩ (.bool false) (fun g => g = w.heap.size) rfl)
      exact ⟨owns_keptA h1 hk2 (by omega) (by omega), HST.out.2.2 k _ _ _ _ _ _ h2 h4 ⟨⟨by decide, by decide, by decide, by decide, by decide⟩, by decide⟩ hB hk2, fr_kept hB (by omega) hk2 h3 (Nat.le_refl _)⟩
end Go.Proofs.YtonpdbajoidigaaGreatDoor

/-
  FnSpace: calls as steps of the engine's state.
-/
namespace Go.Proofs.YtonpdbajoidigaaGreatDoor
open Go.RowKit
set_option linter.unusedSimpArgs false
set_option linter.unusedVariables false

/-- What a block of answers may take. -/
def KeepsA (B : Nat) (P : World → Prop) : Prop := ∀ V' w' N c, P V' → V'.heap[N]? = some (.cells c 42 (0, 0)) → B ≤ N → Kept (fun g => g = N) V' w' → P w'
section
variable {K : Cx} {w : World} {Dm gt tc : Nat} {es : List (Int × Bool)} {q a u o : Int} {rd : Int → List Int} {ps ds : List FP}
theorem answer_st (hK : K.Ok) (st : St K w Dm gt tc es q a u o rd ps ds) (k : Nat) (F : FuncId) (hF : K.hs[k]? = some (hndV K.E F)) (hk8 : k ≤ 8) (eg : ∀ args W, (callFunc F args).run Tryz.prog W = .ok (.enter F args) W) (nm dt dd : ByteArray) (P : World → Prop) (hP : KeepsA K.B P)
    (hr : ∀ V, Below w.heap.size w V → Calls Tryz.prog 58 #[.pointer (some ⟨K.E, 0, none⟩), .agg (callV k nm dt)] V fun e w' => e = .returned (.int .i64 0) ∧ Below V.heap.size V w')
    (hC : ∀ V, Below w.heap.size w V → Calls Tryz.prog F #[.pointer (some ⟨K.E, 0, none⟩), .agg (callV k nm dt)] V fun e w' => e = .returned (.agg (ansV 0 dd)) ∧ P w' ∧ Fr K.B V w') :
    Calls Tryz.prog 31 #[.pointer (some ⟨K.E, 0, none⟩), .agg (callV k nm dt)] w fun e w' => e = .returned (.agg (ansV 0 dd)) ∧ P w' ∧ Fr K.B w w' := by
  have hlE := st.eng.lt
  have hB := hK.hB
  refine (answer_do K.E k F nm dt dd w (fun V w' => P w' ∧ Fr K.B V w') hk8 ((eng_h st.eng k).trans hF) eg hr hC (fun V w' h p c t h1 h2 => h.2.tag p c t (0, 0) h1 (by rw [h2]; exact tgA))).mono ?_
  rintro e w' ⟨h1, h2⟩
  exact ⟨h1, wrap_lift (by omega) hP h2⟩
theorem write_st (hB : K.B ≤ w.heap.size) (k : Int) (nm dt : ByteArray) (P : World → Prop) (hP : KeepsA K.B P)
    (hC : ∀ V, Below w.heap.size w V → Calls Tryz.prog 47 #[.pointer (some ⟨K.E, 0, none⟩), .string nm, .string dt] V fun e w' => (∃ v, e = .returned v) ∧ P w' ∧ Fr K.B V w') :
    Calls Tryz.prog 21 #[.pointer (some ⟨K.E, 0, none⟩), .agg (callV k nm dt)] w fun e w' => e = .returned (.agg (ansV 0 ⟨#[]⟩)) ∧ P w' ∧ Fr K.B w w' := by
  refine (answerWrite_any K.E k nm dt w (fun V w' => P w' ∧ Fr K.B V w') hC (fun V w' h p c t h1 h2 => h.2.tag p c t (0, 0) h1 (by rw [h2]; exact tgA))).mono ?_
  rintro e w' ⟨h1, h2⟩
  exact ⟨h1, wrap_lift hB hP h2⟩
theorem delete_st (hB : K.B ≤ w.heap.size) (k : Int) (nm dt : ByteArray) (P : World → Prop) (hP : KeepsA K.B P)
    (hC : ∀ V, Below w.heap.size w V → Calls Tryz.prog 50 #[.pointer (some ⟨K.E, 0, none⟩), .string nm] V fun e w' => (∃ v, e = .returned v) ∧ P w' ∧ Fr K.B V w') :
    Calls Tryz.prog 24 #[.pointer (some ⟨K.E, 0, none⟩), .agg (callV k nm dt)] w fun e w' => e = .returned (.agg (ansV 0 ⟨#[]⟩)) ∧ P w' ∧ Fr K.B w w' := by
  refine (answerDelete_any K.E k nm dt w (fun V w' => P w' ∧ Fr K.B V w') hC (fun V w' h p c t h1 h2 => h.2.tag p c t (0, 0) h1 (by rw [h2]; exact tgA))).mono ?_
  rintro e w' ⟨h1, h2⟩
  exact ⟨h1, wrap_lift hB hP h2⟩
/-- What a file written changes. -/
structure WF (K : Cx) (es es' : List (Int × Bool)) (a u a' u' o o' : Int) (rd' : Int → List Int) (nm dt : ByteArray) (m : Nat) (p : FP) : Prop where
  nm : p.1.nm = nm
  live : liveN es' K.n = liveN es K.n + (m + 1)
  room : frS (segL (logN K.S K.b) K.b es K.S K.n) a u K.b K.S - ((m : Int) + 1) ≤ frS (segL (logN K.S K.b) K.b es' K.S K.n) a' u' K.b K.S
  rest : ∀ i, i < K.n → eA es' i ≠ eA es i → ((i : Int) + 1) ∈ p.all
  sz : p.1.sz = (dt.size : Int)
  ln : p.1.ln = m
  data : ∀ j, j < m → 0 ≤ eA es' (lidK p.2 j) ∧ eA es' (lidK p.2 j) < (K.nb : Int) ∧ rd' (eA es' (lidK p.2 j)) = chB dt j
  o1 : o ≤ o'
  o2 : o' ≤ o + 2 * (m + 1)
def WPost (K : Cx) (Dm gt tc : Nat) (es : List (Int × Bool)) (q a u o : Int) (ps ds : List FP) (nm dt : ByteArray) (m : Nat) (w' : World) : Prop :=
  ∃ es' a' u' o' rd' p, St K w' Dm gt tc es' q a' u' o' rd' (ps ++ [p]) ds ∧ WF K es es' a u a' u' o o' rd' nm dt m p
theorem wpost_keeps (hK : K.Ok) (nm dt : ByteArray) (m : Nat) : KeepsA K.B (WPost K Dm gt tc es q a u o ps ds nm dt m) := fun V' w' N c ⟨es', a', u', o', rd', p, h1, h2⟩ hN hB hk => ⟨es', a', u', o', rd', p, h1.keptA hK hN hB hk, h2⟩
theorem take_all (ls : List Int) (m : Nat) (h : ls.length = m + 1) : ls.take m ++ [ls[m]?.getD 0] = ls := by
  have : ls.drop m = [ls[m]?.getD 0] := by
    rw [List.drop_eq_getElem_cons (by omega), List.drop_of_length_le (by omega), List.getElem?_eq_getElem (by omega)]
    rfl
  rw [← this, List.take_append_drop]
theorem lidK_take (ls : List Int) (m j : Nat) (h : j < m) : lidK (ls.take m) j = lidK ls j := by
  unfold lidK
  rw [List.getElem?_take, if_pos h]
theorem spost_st (hK : K.Ok) (st : St K w Dm gt tc es q a u o rd ps ds) {w' : World} (nm dt : ByteArray) (m : Nat) (hm : m ≤ 22) (ls : List Int) (hll : ls.length = m + 1) (hL : Lids K.n es ls) (h : SPost K.B w w' K.E K.C K.nb K.M K.S K.b K.W Dm gt tc K.n es q o K.hs rd (frS (segL (logN K.S K.b) K.b es K.S K.n) a u K.b K.S) ls nm dt (ps.map (·.1)) m) :
    WPost K Dm gt tc es q a u o ps ds nm dt m w' ∧ Fr K.B w w' := by
  obtain ⟨⟨es', a', u', o', rd', X, hE', hD', hT', hS', hX, ho1, ho2⟩, ⟨gl, cl, hM', hgl, hcl, hclx, hcell, cur, hcur⟩, hbel, hkd⟩ := h
  have hall : FP.all (⟨nm, ls[m]?.getD 0, (dt.size : Int), some ⟨gl, 0, none⟩, m, cl⟩, ls.take m) = ls := take_all ls m hll
  have hfr := Fr.of_kd st hbel hkd
  have hlE := st.eng.lt
  refine ⟨⟨es', a', u', o', rd', (⟨nm, ls[m]?.getD 0, (dt.size : Int), some ⟨gl, 0, none⟩, m, cl⟩, ls.take m), ⟨hE', hD', hT', hS'.inv, ?_, ?_, ?_, ?_, st.dw, st.dm, st.rules.below hbel hK.hB0⟩, ⟨rfl, hS'.live, hS'.room, fun i hi hne => ?_, rfl, rfl, fun j hj => ?_, ho1, ho2⟩⟩, hfr⟩
  · rcases hS'.inv.act with ⟨_, h⟩ | ⟨j, _, _, h1, h2, _⟩
    · exact h
    · exact ⟨h1, h2⟩
  · rw [List.map_append]; exact hM'
  · refine st.dur.kd hkd (fun x => ?_)
    obtain ⟨xs, ws, da, dc, wa, wc, D, hc, _⟩ := st.dsk
    obtain ⟨cur, htg⟩ := st.tab.tag
    rcases x with x | x | x | x | x
    · exact st.dur.neE hc.cell x.symm
    · exact st.dm x
    · exact st.dur.neE st.eng x.symm
    · exact st.dur.neE htg x.symm
    · exact st.dw x
  · intro p hp
    rcases List.mem_append.1 hp with hp | hp
    · obtain ⟨⟨g, h1, h2⟩, h3, h4⟩ := st.ok p hp
      have h2' := h2
      obtain ⟨_, _, cur2, hc2⟩ := h2'
      exact ⟨⟨g, h1, h2.of_block ((hfr.tag g cur2 _ _ hc2 ⟨by decide, by decide, by decide, by decide, by decide⟩).trans hc2.symm)⟩, h3, h4⟩
    · obtain rfl := List.mem_singleton.1 hp
      refine ⟨⟨gl, rfl, by rw [List.length_take]; show min m ls.length = m; omega, fun j hj => ?_, cur, hcur⟩, hm, fun x hx => ?_⟩
      · rw [hcell j hj, List.getElem?_take, if_pos hj]
      · rw [hall] at hx
        obtain ⟨i, hi, rfl⟩ := List.getElem_of_mem hx
        have := hL.low i hi
        rw [List.getElem?_eq_getElem hi] at this
        exact this
  · rw [hall]
    by_cases hex : ∃ j, j < m + 1 ∧ i = lidK ls j
    · obtain ⟨j, hj, rfl⟩ := hex
      have hjl : j < ls.length := by omega
      have := hL.low j hjl
      have e : ((lidK ls j : Nat) : Int) + 1 = ls[j] := by
        unfold lidK
        rw [List.getElem?_eq_getElem hjl] at this ⊢
        simp only [Option.getD_some] at this ⊢
        omega
      rw [e]
      exact List.getElem_mem hjl
    · exact absurd (hS'.rest i hi (fun j hj e => hex ⟨j, hj, e⟩)) hne
  · rw [lidK_take ls m j hj]
    obtain ⟨h1, h2⟩ := hS'.at' j (by omega)
    have hlow := hL.low j (by omega)
    have hlt : lidK ls j < K.n := by unfold lidK; omega
    have hL1 := (logN_bounds hK.hv).1
    have := hS'.inv.log (lidK ls j) hlt (by omega)
    rw [hX j hj] at h2
    exact ⟨by omega, by rw [hK.hnb]; exact this.2, h2⟩
end
end Go.Proofs.YtonpdbajoidigaaGreatDoor

/-
  FnSpace: the calls, step by step.
-/
namespace Go.Proofs.YtonpdbajoidigaaGreatDoor
open Go.RowKit
set_option linter.unusedSimpArgs false
set_option linter.unusedVariables false

section
variable {K : Cx} {w : World} {Dm gt tc : Nat} {es : List (Int × Bool)} {q a u o : Int} {rd : Int → List Int} {ps ds : List FP}
theorem st_write (hK : K.Ok) (st : St K w Dm gt tc es q a u o rd ps ds) (nm dt : ByteArray) (m : Nat) (hm : m ≤ 22) (hdt : dt.size = 64 * m) (hnm : nameB nm = true) (hlk : lookF nm (ps.map (·.1)) = .none) (hlive : (liveN es K.n : Int) + ((m : Int) + 1) ≤ K.S * K.b - 2 * K.b) (hroom : (m : Int) + 1 + K.b ≤ frS (segL (logN K.S K.b) K.b es K.S K.n) a u K.b K.S) (ho : 0 ≤ o) (ho' : o ≤ 1000000000) :
    Calls Tryz.prog 31 #[.pointer (some ⟨K.E, 0, none⟩), .agg (callV (1 : Nat) nm dt)] w fun e w' => e = .returned (.agg (ansV 0 ⟨#[]⟩)) ∧ WPost K Dm gt tc es q a u o ps ds nm dt m w' ∧ Fr K.B w w' := by
  have hg := vG_bounds hK.hv
  have hN := hK.nb'
  have hfree : m + 1 ≤ (freeL es K.n).length := by
    have := live_free es K.n
    have := hK.hn
    omega
  obtain ⟨hL, hll⟩ := lids_of hfree
  have hls : freeR es K.n ((m : Int) + 1) = (freeL es K.n).take (m + 1) := by
    have := freeR_take hfree
    rw [Int.natCast_add] at this
    exact this
  have hlE := st.eng.lt
  have hB := hK.hB
  refine answer_st hK st 1 _ hK.h1 (by omega) call_aW nm dt ⟨#[]⟩ _ (wpost_keeps hK nm dt m) (fun V hV => ?_) (fun V hV => ?_)
  · have st' := st.tr hK hV
    have h := refuse_write K.E K.C K.S K.b K.W Dm _ K.n tc es q a u o K.hs _ 1 nm dt m V st'.eng st'.tab.read (by omega) hK.hv hm hdt st'.wrk (by omega) (by omega) st'.rules.write hnm
    rw [codeN, if_neg (by omega)] at h
    exact h
  · refine write_st (by have := hV.size; omega) _ nm dt _ (wpost_keeps hK nm dt m) (fun V2 hV2 => ?_)
    have st' := (st.tr hK hV).tr hK hV2
    refine (store_any K.B K.E K.C K.nb K.M K.S K.b K.W Dm gt tc K.n es q a u o K.hs rd nm dt _ m _ V2 st'.eng st'.dsk st'.tab hK.hB hK.hv hK.hnb (by omega) ho ho' hdt hm hnm st'.inv hls hll hL hroom st'.hu st'.wrk hlk hK.hWM hK.hWB).mono ?_
    rintro e w' ⟨h1, h2⟩
    exact ⟨h1, spost_st hK st' nm dt m hm _ hll hL h2⟩
theorem st_keeps (hK : K.Ok) : KeepsA K.B (fun V => St K V Dm gt tc es q a u o rd ps ds) := fun V' w' N c h hN hB hk => h.keptA hK hN hB hk
theorem st_refused (hK : K.Ok) (st : St K w Dm gt tc es q a u o rd ps ds) (nm dt : ByteArray) (m : Nat) (hm : m ≤ 22) (hdt : dt.size = 64 * m) (hnm : nameB nm = true) (hlive : K.S * K.b - 2 * K.b < (liveN es K.n : Int) + ((m : Int) + 1)) :
    Calls Tryz.prog 31 #[.pointer (some ⟨K.E, 0, none⟩), .agg (callV (1 : Nat) nm dt)] w fun e w' => e = .returned (.agg (ansV 24 ⟨#[]⟩)) ∧ St K w' Dm gt tc es q a u o rd ps ds ∧ Fr K.B w w' := by
  have hN := hK.nb'
  have hlE := st.eng.lt
  have hB := hK.hB
  refine (answer_ref K.E 1 nm dt 24 w (by omega) (fun V hV => ?_)).mono fun e w' ⟨h1, h2⟩ => ⟨h1, st.tr hK h2, Fr.of_below h2 (by omega)⟩
  have st' := st.tr hK hV
  have h := refuse_write K.E K.C K.S K.b K.W Dm _ K.n tc es q a u o K.hs _ 1 nm dt m V st'.eng st'.tab.read (by omega) hK.hv hm hdt st'.wrk (by omega) (by omega) st'.rules.write hnm
  rw [codeN, if_pos (by omega)] at h
  exact h
theorem st_miss (hK : K.Ok) (st : St K w Dm gt tc es q a u o rd ps ds) (nm : ByteArray) (hnm : nameB nm = true) (hlk : lookF nm (ps.map (·.1)) = .none) :
    Calls Tryz.prog 31 #[.pointer (some ⟨K.E, 0, none⟩), .agg (callV (2 : Nat) nm ⟨#[]⟩)] w fun e w' => e = .returned (.agg (ansV 22 ⟨#[]⟩)) ∧ St K w' Dm gt tc es q a u o rd ps ds ∧ Fr K.B w w' := by
  have hlE := st.eng.lt
  have hB := hK.hB
  refine (answer_ref K.E 2 nm ⟨#[]⟩ 22 w (by omega) (fun V hV => ?_)).mono fun e w' ⟨h1, h2⟩ => ⟨h1, st.tr hK h2, Fr.of_below h2 (by omega)⟩
  have st' := st.tr hK hV
  exact refuse_miss K.E K.C K.S K.b K.W Dm _ q a u o K.hs _ 2 nm V st'.eng st'.wrk (by omega) (by omega) st'.rules.read hnm hlk
theorem st_read (hK : K.Ok) (st : St K w Dm gt tc es q a u o rd ps ds) (nm dt : ByteArray) (m : Nat) (hdt : dt.size = 64 * m) (hnm : nameB nm = true) (p : FP) (hp : p ∈ ps) (hlk : lookF nm (ps.map (·.1)) = some p.1) (hsz : p.1.sz = (dt.size : Int)) (hln : p.1.ln = m)
    (hx : ∀ j, j < m → 0 ≤ eA es (lidK p.2 j) ∧ eA es (lidK p.2 j) < (K.nb : Int) ∧ rd (eA es (lidK p.2 j)) = chB dt j) :
    Calls Tryz.prog 31 #[.pointer (some ⟨K.E, 0, none⟩), .agg (callV (2 : Nat) nm ⟨#[]⟩)] w fun e w' => e = .returned (.agg (ansV 0 dt)) ∧ St K w' Dm gt tc es q a u o rd ps ds ∧ Fr K.B w w' := by
  have hN := hK.nb'
  have hlE := st.eng.lt
  have hB := hK.hB
  refine answer_st hK st 2 _ hK.h2 (by omega) call_aR nm ⟨#[]⟩ dt _ (st_keeps hK) (fun V hV => ?_) (fun V hV => ?_)
  · have st' := st.tr hK hV
    exact refuse_plain K.E K.C K.S K.b K.W Dm _ q a u o K.hs _ 2 true nm V st'.eng st'.wrk (by omega) (by omega) st'.rules.read (fun _ => ⟨hnm, _, hlk⟩) (fun h => by cases h)
  · have st' := st.tr hK hV
    refine (answerRead_any K.E _ nm ⟨#[]⟩ dt V (fun V2 hV2 => ?_)).mono fun e w' ⟨h1, h2⟩ => ⟨h1, st'.tr hK h2, Fr.of_below h2 (by have := hV.size; omega)⟩
    have st2 := st'.tr hK hV2
    obtain ⟨⟨g, hg1, hg2⟩, hg3, hg4⟩ := st2.ok p hp
    obtain ⟨⟨nm', lid, sz, la, ln, lc⟩, ls⟩ := p
    simp only at hsz hln hg1 hg2 hg3
    subst hsz
    subst hln
    subst hg1
    exact dataOf_any K.B K.E K.C K.nb K.M K.S K.b K.W Dm gt tc K.n es q a u o K.hs rd _ nm nm' dt lid g ln lc ls V2 st2.eng st2.dsk st2.tab st2.wrk hlk (by omega) hg2 hg3 hdt (fun x hx => hg4 x (List.mem_append_left _ hx)) (by omega) hx
def dropP (s : ByteArray) : List FP → List FP
  | [] => []
  | p :: r => if s = p.1.nm then r else p :: dropP s r
theorem dropP_map (s : ByteArray) : ∀ ps : List FP, (dropP s ps).map (·.1) = dropF s (ps.map (·.1))
  | [] => rfl
  | p :: r => by
    rw [dropP, List.map_cons, dropF]
    by_cases h : s = p.1.nm
    · rw [if_pos h, if_pos h]
    · rw [if_neg h, if_neg h, List.map_cons, dropP_map s r]
theorem dropP_sub (s : ByteArray) : ∀ ps : List FP, ∀ p ∈ dropP s ps, p ∈ ps
  | [], p, hp => hp
  | x :: r, p, hp => by
    rw [dropP] at hp
    by_cases h : s = x.1.nm
    · rw [if_pos h] at hp; exact List.mem_cons_of_mem _ hp
    · rw [if_neg h] at hp
      rcases List.mem_cons.1 hp with rfl | hp
      · exact List.mem_cons_self
      · exact List.mem_cons_of_mem _ (dropP_sub s r p hp)
theorem st_delete (hK : K.Ok) (st : St K w Dm gt tc es q a u o rd ps ds) (nm : ByteArray) (hnm : nameB nm = true) (f g : FR) (hlk : lookF nm (ps.map (·.1)) = some f) (hld : lookF nm (ds.map (·.1)) = some g) (hq : g.lid = f.lid) :
    Calls Tryz.prog 31 #[.pointer (some ⟨K.E, 0, none⟩), .agg (callV (4 : Nat) nm ⟨#[]⟩)] w fun e w' => e = .returned (.agg (ansV 0 ⟨#[]⟩)) ∧ St K w' Dm gt tc es q a u o rd (dropP nm ps) ds ∧ Fr K.B w w' := by
  have hlE := st.eng.lt
  have hB := hK.hB
  refine answer_st hK st 4 _ hK.h4 (by omega) call_aD nm ⟨#[]⟩ ⟨#[]⟩ _ (st_keeps hK) (fun V hV => ?_) (fun V hV => ?_)
  · have st' := st.tr hK hV
    exact refuse_plain K.E K.C K.S K.b K.W Dm _ q a u o K.hs _ 4 true nm V st'.eng st'.wrk (by omega) (by omega) st'.rules.delete (fun _ => ⟨hnm, _, hlk⟩) (fun h => by cases h)
  · refine delete_st (by have := hV.size; omega) _ nm ⟨#[]⟩ _ (st_keeps hK) (fun V2 hV2 => ?_)
    have s2 := (st.tr hK hV).tr hK hV2
    refine (forget_dur K.E K.C K.S K.b K.W Dm _ q a u o K.hs _ _ nm f g V2 s2.eng s2.wrk s2.dur hlk hld hq).mono ?_
    rintro e w' ⟨h1, h2, h3⟩
    have hk : Kd (fun g => g = K.W) V2 w' := Kd.of_kept h3 fun g hg => .inl hg
    have hbel : Below K.B V2 w' := h3.below (by have := s2.eng.lt; omega) (fun g hg => by rw [hg]; exact hK.hWB)
    have hEW : K.E ≠ K.W := s2.wrk.neE s2.eng
    refine ⟨h1, ⟨hk.eng s2.eng hEW, s2.dsk.keptW s2.wrk hK.hWM h3, s2.tab.kd hk (fun x => ?_), s2.inv, s2.hu, by rw [dropP_map]; exact h2, s2.dur.kd hk s2.dw, fun p hp => ?_, s2.dw, s2.dm, s2.rules.below hbel hK.hB0⟩, Fr.of_kd s2 hbel (hk.mono fun g hg => .inr (.inr (.inr (.inr hg))))⟩
    · obtain ⟨cur, hc⟩ := s2.tab.tag; exact s2.wrk.neE hc x
    · obtain ⟨⟨g, k1, k2⟩, k3, k4⟩ := s2.ok p (dropP_sub nm ps p hp)
      refine ⟨⟨g, k1, k2.kd hk (fun x => ?_)⟩, k3, k4⟩
      obtain ⟨_, _, cur, hc⟩ := k2
      exact s2.wrk.neE hc x
def SyPost (K : Cx) (es : List (Int × Bool)) (q a u o : Int) (ps : List FP) (w' : World) : Prop := ∃ o' rd' D' gt' es', St K w' D' gt' K.n es' (q + 1) a u o' rd' ps ps ∧ TOf K.n ps es es' ∧ o ≤ o' ∧ o' ≤ o + 80
theorem sypost_keeps (hK : K.Ok) : KeepsA K.B (SyPost K es q a u o ps) := fun V' w' N c ⟨o', rd', D', gt', es', h1, h2⟩ hN hB hk => ⟨o', rd', D', gt', es', h1.keptA hK hN hB hk, h2⟩
theorem st_sync (hK : K.Ok) (st : St K w Dm gt tc es q a u o rd ps ds) (ho : 0 ≤ o) (ho' : o ≤ 1000000000) (hq : 1 ≤ q) (hq' : q ≤ 1000) :
    Calls Tryz.prog 31 #[.pointer (some ⟨K.E, 0, none⟩), .agg (callV (6 : Nat) ⟨#[]⟩ ⟨#[]⟩)] w fun e w' => e = .returned (.agg (ansV 0 ⟨#[]⟩)) ∧ SyPost K es q a u o ps w' ∧ Fr K.B w w' := by
  have hlE := st.eng.lt
  have hB := hK.hB
  have hg := vG_bounds hK.hv
  have hL := (logN_bounds hK.hv).1
  refine answer_st hK st 6 _ hK.h6 (by omega) call_aS ⟨#[]⟩ ⟨#[]⟩ ⟨#[]⟩ _ (sypost_keeps hK) (fun V hV => ?_) (fun V hV => ?_)
  · have st' := st.tr hK hV
    exact refuse_plain K.E K.C K.S K.b K.W Dm _ q a u o K.hs _ 6 false ⟨#[]⟩ V st'.eng st'.wrk (by omega) (by omega) st'.rules.sync (fun h => by cases h) (fun _ => rfl)
  · have s2 := st.tr hK hV
    refine (sync_any K.B K.E K.C K.nb K.M K.S K.b K.W Dm gt tc K.n es q a u o K.hs rd ps _ ⟨#[]⟩ ⟨#[]⟩ V s2.eng s2.dsk s2.tab hK.hB hK.hv hK.hnb hK.hn ho ho' hq hq' s2.wrk s2.ok hK.hWM).mono ?_
    rintro e w' ⟨h1, o', rd', D', gt', es', hE', hD', hT', hO, hM', hM'', hok', ho1, ho2, hrd, hDD, hbel, hkd⟩
    have hWl := s2.wrk.lt
    have hMl := s2.dsk.lts.2
    refine ⟨h1, ⟨o', rd', D', gt', es', ⟨hE', hD', hT', ⟨hT'.len, fun i hi hne => ?_, ?_⟩, s2.hu, hM', hM'', hok', by omega, by omega, s2.rules.below hbel hK.hB0⟩, hO, ho1, ho2⟩, Fr.of_kd s2 hbel (hkd.mono fun g hg => by omega)⟩
    · have := (hO.from' i hi hne).1
      rw [this] at hne ⊢
      exact s2.inv.log i hi hne
    · rcases s2.inv.act with h | ⟨j, k1, k2, k3, k4, k5⟩
      · exact .inl h
      · refine .inr ⟨j, k1, k2, k3, k4, fun i hi hs => ?_⟩
        by_cases h0 : eA es' i = 0
        · rw [h0, segB_zero (by omega) (by omega)] at hs; cases hs
        · have := (hO.from' i hi h0).1
          rw [this] at hs ⊢
          exact k5 i hi hs
end
end Go.Proofs.YtonpdbajoidigaaGreatDoor

/-
  FnSpace: the calls, from phase to phase.
-/
namespace Go.Proofs.YtonpdbajoidigaaGreatDoor
open Go.RowKit
set_option linter.unusedSimpArgs false
set_option linter.unusedVariables false

/-- A state of the engine of which something holds. -/
def Hold (K : Cx) (Q : List (Int × Bool) → Int → Int → Int → Int → (Int → List Int) → List FP → List FP → Prop) (w : World) : Prop := ∃ Dm gt tc es q a u o rd ps ds, St K w Dm gt tc es q a u o rd ps ds ∧ Q es q a u o rd ps ds
theorem hold_tr {K : Cx} (hK : K.Ok) {Q} {w V : World} (h : Hold K Q w) (hb : Below w.heap.size w V) : Hold K Q V := by
  obtain ⟨Dm, gt, tc, es, q, a, u, o, rd, ps, ds, h1, h2⟩ := h
  exact ⟨Dm, gt, tc, es, q, a, u, o, rd, ps, ds, h1.tr hK hb, h2⟩
theorem hold_keeps {K : Cx} (hK : K.Ok) (Q) : KeepsT K.B (Hold K Q) := by
  rintro V' w' N c t f ⟨Dm, gt, tc, es, q, a, u, o, rd, ps, ds, h1, h2⟩ hN ht hB hk
  exact ⟨Dm, gt, tc, es, q, a, u, o, rd, ps, ds, h1.keptT hK hN ht.1 ht.2 hB hk, h2⟩
/-- What the law's calls have: the geometry's room, the files' size, their names and their data. -/
structure Pl where
  f : Nat
  m : Nat
  nm : Nat → ByteArray
  g : ByteArray
  dt : ByteArray
structure Pl.Ok (P : Pl) (K : Cx) : Prop where
  hm : P.m ≤ 22
  hdt : P.dt.size = 64 * P.m
  hf : (P.f : Int) * (P.m + 1) ≤ K.S * K.b - 2 * K.b
  hf' : K.S * K.b - 2 * K.b < (P.f : Int) * (P.m + 1) + (P.m + 1)
  hnm : ∀ i, i ≤ P.f → nameB (P.nm i) = true
  inj : ∀ i j, i ≤ P.f → j ≤ P.f → P.nm i = P.nm j → i = j
  hg : nameB P.g = true
  hgn : ∀ i, i ≤ P.f → P.nm i ≠ P.g
def Pl.names (P : Pl) (k : Nat) : List ByteArray := (List.range k).map P.nm
section
variable {K : Cx} {P : Pl}
def Q1 (K : Cx) (P : Pl) (j : Nat) (es : List (Int × Bool)) (q a u o : Int) (rd : Int → List Int) (ps ds : List FP) : Prop :=
  ps.map (·.1.nm) = P.names j ∧ q = 1 ∧ liveN es K.n = j * (P.m + 1) ∧ (K.S : Int) * K.b - (j : Int) * (P.m + 1) ≤ frS (segL (logN K.S K.b) K.b es K.S K.n) a u K.b K.S ∧ (∀ i, i < K.n → eA es i ≠ 0 → CovP ps i) ∧ 0 ≤ o ∧ o ≤ 100 * (j : Int)
def Q2 (K : Cx) (P : Pl) (d : Nat) (es : List (Int × Bool)) (q a u o : Int) (rd : Int → List Int) (ps ds : List FP) : Prop :=
  ds.map (·.1.nm) = P.names P.f ∧ ps = ds.drop d ∧ q = 2 ∧ liveN es K.n = P.f * (P.m + 1) ∧ 0 ≤ o ∧ o ≤ 200000
def Q3 (K : Cx) (P : Pl) (es : List (Int × Bool)) (q a u o : Int) (rd : Int → List Int) (ps ds : List FP) : Prop :=
  ps = [] ∧ (∀ i, i < K.n → eA es i = 0) ∧ 0 ≤ o ∧ o ≤ 300000
def Q4 (K : Cx) (P : Pl) (es : List (Int × Bool)) (q a u o : Int) (rd : Int → List Int) (ps ds : List FP) : Prop :=
  if P.f = 0 then ps = [] else ∃ p, ps = [p] ∧ p.1.nm = P.g ∧ p.1.sz = (P.dt.size : Int) ∧ p.1.ln = P.m ∧ ∀ j, j < P.m → 0 ≤ eA es (lidK p.2 j) ∧ eA es (lidK p.2 j) < (K.nb : Int) ∧ rd (eA es (lidK p.2 j)) = chB P.dt j
theorem lookF_none {s : ByteArray} : ∀ {fs : List FR}, (∀ f ∈ fs, f.nm ≠ s) → lookF s fs = .none
  | [], _ => rfl
  | f :: r, h => by
    rw [lookF, if_neg (fun e => h f List.mem_cons_self e.symm)]
    exact lookF_none fun g hg => h g (List.mem_cons_of_mem _ hg)
theorem lookF_get {s : ByteArray} : ∀ {fs : List FR} {k : Nat} {f : FR}, fs[k]? = some f → f.nm = s → (∀ j g, j < k → fs[j]? = some g → g.nm ≠ s) → lookF s fs = some f
  | [], k, f, h, _, _ => by simp at h
  | x :: r, 0, f, h, hs, _ => by
    simp at h
    subst h
    rw [lookF, if_pos hs.symm]
  | x :: r, k + 1, f, h, hs, hn => by
    rw [lookF, if_neg (fun e => hn 0 x (by omega) rfl e.symm)]
    exact lookF_get (k := k) (by simpa using h) hs fun j g hj hg => hn (j + 1) g (by omega) (by simpa using hg)
theorem names_at {ps : List FP} {k j : Nat} (h : ps.map (·.1.nm) = P.names k) (hj : j < k) : ∃ p, ps[j]? = some p ∧ p.1.nm = P.nm j := by
  have hl : ps.length = k := by have := congrArg List.length h; simpa [Pl.names] using this
  refine ⟨ps[j]'(by omega), List.getElem?_eq_getElem (by omega), ?_⟩
  have h2 := congrArg (fun l => l[j]?) h
  simp [Pl.names, hj, hl] at h2
  exact h2
theorem names_mem {ps : List FP} {k : Nat} (h : ps.map (·.1.nm) = P.names k) {p : FP} (hp : p ∈ ps) : ∃ j, j < k ∧ p.1.nm = P.nm j := by
  have : p.1.nm ∈ P.names k := by rw [← h]; exact List.mem_map.2 ⟨p, hp, rfl⟩
  obtain ⟨j, hj, e⟩ := List.mem_map.1 this
  exact ⟨j, List.mem_range.1 hj, e.symm⟩
theorem step_write (hK : K.Ok) (hP : P.Ok K) {w : World} (j : Nat) (hj : j < P.f) (h : Hold K (Q1 K P j) w) (hjs : j ≤ 2000) :
    Calls Tryz.prog 31 #[.pointer (some ⟨K.E, 0, none⟩), .agg (callV (1 : Nat) (P.nm j) P.dt)] w fun e w' => e = .returned (.agg (ansV 0 ⟨#[]⟩)) ∧ Hold K (Q1 K P (j + 1)) w' ∧ Fr K.B w w' := by
  obtain ⟨Dm, gt, tc, es, q, a, u, o, rd, ps, ds, st, hn, hq, hlv, hfr, hcov, ho, ho'⟩ := h
  have hm := hP.hm
  have hg := vG_bounds hK.hv
  have hmul : ((j : Int) + 1) * (P.m + 1) ≤ (P.f : Int) * (P.m + 1) := Int.mul_le_mul_of_nonneg_right (by omega) (by omega)
  have hf := hP.hf
  rw [Int.add_mul, Int.one_mul] at hmul
  have hlv' : (liveN es K.n : Int) = (j : Int) * ((P.m : Int) + 1) := by rw [hlv]; simp
  refine (st_write hK st (P.nm j) P.dt P.m hP.hm hP.hdt (hP.hnm j (by omega)) (lookF_none fun f hf e => ?_) (by omega) (by omega) ho (by omega)).mono ?_
  · obtain ⟨p, hp, rfl⟩ := List.mem_map.1 hf
    obtain ⟨i, hi, e'⟩ := names_mem hn hp
    have := hP.inj i j (by omega) (by omega) (e'.symm.trans e)
    omega
  · rintro e w' ⟨h1, ⟨es', a', u', o', rd', p, h2, h3⟩, h4⟩
    refine ⟨h1, ⟨Dm, gt, tc, es', q, a', u', o', rd', _, ds, h2, ?_, hq, ?_, ?_, fun i hi hne => ?_, ?_, ?_⟩, h4⟩
    · rw [List.map_append, hn, Pl.names, Pl.names, List.range_succ, List.map_append, List.map_cons, List.map_cons, h3.nm]; rfl
    · rw [h3.live, hlv, Nat.add_mul]; omega
    · have := h3.room
      rw [Int.natCast_add, Int.add_mul, Int.natCast_one, Int.one_mul]
      omega
    · by_cases he : eA es' i = eA es i
      · rw [he] at hne
        obtain ⟨x, hx, hx'⟩ := hcov i hi hne
        exact ⟨x, List.mem_append_left _ hx, hx'⟩
      · exact ⟨p, List.mem_append_right _ List.mem_cons_self, h3.rest i hi he⟩
    · have := h3.o1; omega
    · have := h3.o2; omega
theorem step_full (hK : K.Ok) (hP : P.Ok K) {w : World} (h : Hold K (Q1 K P P.f) w) :
    Calls Tryz.prog 31 #[.pointer (some ⟨K.E, 0, none⟩), .agg (callV (1 : Nat) (P.nm P.f) P.dt)] w fun e w' => e = .returned (.agg (ansV 24 ⟨#[]⟩)) ∧ Hold K (Q1 K P P.f) w' ∧ Fr K.B w w' := by
  obtain ⟨Dm, gt, tc, es, q, a, u, o, rd, ps, ds, st, hn, hq, hlv, hr⟩ := h
  have hlv' : (liveN es K.n : Int) = (P.f : Int) * ((P.m : Int) + 1) := by rw [hlv]; simp
  have hf := hP.hf'
  refine (st_refused hK st (P.nm P.f) P.dt P.m hP.hm hP.hdt (hP.hnm _ (Nat.le_refl _)) (by omega)).mono ?_
  rintro e w' ⟨h1, h2, h3⟩
  exact ⟨h1, ⟨Dm, gt, tc, es, q, a, u, o, rd, ps, ds, h2, hn, hq, hlv, hr⟩, h3⟩
theorem step_sync1 (hK : K.Ok) (hP : P.Ok K) {w : World} (h : Hold K (Q1 K P P.f) w) (hfs : P.f ≤ 1000) :
    Calls Tryz.prog 31 #[.pointer (some ⟨K.E, 0, none⟩), .agg (callV (6 : Nat) ⟨#[]⟩ ⟨#[]⟩)] w fun e w' => e = .returned (.agg (ansV 0 ⟨#[]⟩)) ∧ Hold K (Q2 K P 0) w' ∧ Fr K.B w w' := by
  obtain ⟨Dm, gt, tc, es, q, a, u, o, rd, ps, ds, st, hn, rfl, hlv, hfr, hcov, ho, ho'⟩ := h
  refine (st_sync hK st ho (by omega) (by omega) (by omega)).mono ?_
  rintro e w' ⟨h1, ⟨o', rd', D', gt', es', h2, h3, h4, h5⟩, h6⟩
  refine ⟨h1, ⟨D', gt', K.n, es', _, a, u, o', rd', ps, ps, h2, hn, rfl, rfl, ?_, by omega, by omega⟩, h6⟩
  rw [← hlv, liveN_R, liveN_R]
  refine cntR_same fun i hi => ?_
  have : eA es' i = eA es i := by
    by_cases he : eA es i = 0
    · by_cases he' : eA es' i = 0
      · rw [he, he']
      · exact (h3.from' i hi he').1
    · obtain ⟨p, hp, hy⟩ := hcov i hi he
      have := h3.has p hp _ hy
      rw [show ((i : Int) + 1).toNat - 1 = i by omega] at this
      exact this
  rw [this]
theorem step_delete (hK : K.Ok) (hP : P.Ok K) {w : World} (d : Nat) (hd : d < P.f) (h : Hold K (Q2 K P d) w) :
    Calls Tryz.prog 31 #[.pointer (some ⟨K.E, 0, none⟩), .agg (callV (4 : Nat) (P.nm d) ⟨#[]⟩)] w fun e w' => e = .returned (.agg (ansV 0 ⟨#[]⟩)) ∧ Hold K (Q2 K P (d + 1)) w' ∧ Fr K.B w w' := by
  obtain ⟨Dm, gt, tc, es, q, a, u, o, rd, ps, ds, st, hn, rfl, hr⟩ := h
  obtain ⟨p, hp, hpn⟩ := names_at hn hd
  have hl : ds.length = P.f := by have := congrArg List.length hn; simpa [Pl.names] using this
  have hdr : ds.drop d = p :: ds.drop (d + 1) := by
    rw [List.drop_eq_getElem_cons (by omega)]
    congr 1
    rw [List.getElem?_eq_getElem (by omega)] at hp
    injection hp
  have hlk : lookF (P.nm d) ((ds.drop d).map (·.1)) = some p.1 := by
    rw [hdr, List.map_cons, lookF, if_pos hpn.symm]
  have hld : lookF (P.nm d) (ds.map (·.1)) = some p.1 := by
    refine lookF_get (k := d) (by rw [List.getElem?_map, hp]; rfl) hpn fun j g hj hg e => ?_
    obtain ⟨p', hp', hn'⟩ := names_at hn (show j < P.f by omega)
    rw [List.getElem?_map, hp'] at hg
    injection hg with hg
    subst hg
    have := hP.inj j d (by omega) (by omega) (hn'.symm.trans e)
    omega
  refine (st_delete hK st (P.nm d) (hP.hnm d (by omega)) p.1 p.1 hlk hld rfl).mono ?_
  rintro e w' ⟨h1, h2, h3⟩
  refine ⟨h1, ⟨Dm, gt, tc, es, q, a, u, o, rd, _, ds, h2, hn, ?_, hr⟩, h3⟩
  rw [hdr, dropP, if_pos hpn.symm]
theorem step_none (hK : K.Ok) (hP : P.Ok K) {w : World} (h : Hold K (Q2 K P P.f) w) :
    Calls Tryz.prog 31 #[.pointer (some ⟨K.E, 0, none⟩), .agg (callV (1 : Nat) P.g P.dt)] w fun e w' => e = .returned (.agg (ansV 24 ⟨#[]⟩)) ∧ Hold K (Q2 K P P.f) w' ∧ Fr K.B w w' := by
  obtain ⟨Dm, gt, tc, es, q, a, u, o, rd, ps, ds, st, hn, hps, hq, hlv, hr⟩ := h
  have hlv' : (liveN es K.n : Int) = (P.f : Int) * ((P.m : Int) + 1) := by rw [hlv]; simp
  have hf := hP.hf'
  refine (st_refused hK st P.g P.dt P.m hP.hm hP.hdt hP.hg (by omega)).mono ?_
  rintro e w' ⟨h1, h2, h3⟩
  exact ⟨h1, ⟨Dm, gt, tc, es, q, a, u, o, rd, ps, ds, h2, hn, hps, hq, hlv, hr⟩, h3⟩
theorem step_sync2 (hK : K.Ok) (hP : P.Ok K) {w : World} (h : Hold K (Q2 K P P.f) w) :
    Calls Tryz.prog 31 #[.pointer (some ⟨K.E, 0, none⟩), .agg (callV (6 : Nat) ⟨#[]⟩ ⟨#[]⟩)] w fun e w' => e = .returned (.agg (ansV 0 ⟨#[]⟩)) ∧ Hold K (Q3 K P) w' ∧ Fr K.B w w' := by
  obtain ⟨Dm, gt, tc, es, q, a, u, o, rd, ps, ds, st, hn, hps, rfl, hlv, ho, ho'⟩ := h
  have hl : ds.length = P.f := by have := congrArg List.length hn; simpa [Pl.names] using this
  obtain rfl : ps = [] := by rw [hps]; exact List.drop_of_length_le (by omega)
  refine (st_sync hK st ho (by omega) (by omega) (by omega)).mono ?_
  rintro e w' ⟨h1, ⟨o', rd', D', gt', es', h2, h3, h4, h5⟩, h6⟩
  refine ⟨h1, ⟨D', gt', K.n, es', _, a, u, o', rd', [], [], h2, rfl, fun i hi => ?_, by omega, by omega⟩, h6⟩
  by_cases he : eA es' i = 0
  · exact he
  · obtain ⟨p, hp, _⟩ := (h3.from' i hi he).2
    cases hp
theorem zero_live {es : List (Int × Bool)} {n : Nat} (h : ∀ i, i < n → eA es i = 0) : liveN es n = 0 := by
  rw [liveN_R]
  have : cntR (fun i => decide (eA es i ≠ 0)) n = cntR (fun _ => false) n := cntR_same fun i hi => by simp [h i hi]
  rw [this, cntR]
  simp
theorem zero_room {es : List (Int × Bool)} {L b : Int} {S n : Nat} {a u : Int} (h : ∀ i, i < n → eA es i = 0) (hL : 1 ≤ L) (hb : 0 < b) (hu : u ≤ b) (ha : a = -1 ∨ ∃ j : Nat, a = (j : Int) ∧ j < S) : (S : Int) * b - b ≤ frS (segL L b es S n) a u b S := by
  have hc : ∀ s, cntS L b es s n = 0 := fun s => by
    rw [cntS_R]
    have : cntR (fun i => segB L b s (eA es i)) n = cntR (fun _ => false) n := cntR_same fun i hi => by rw [h i hi, segB_zero hL (by omega)]
    rw [this, cntR]
    simp
  rw [frS, frN_R, fr0]
  rcases ha with rfl | ⟨j, rfl, hj⟩
  · have : cntR (fitF (segL L b es S n) (-1)) S = cntR (fun _ => true) S := cntR_same fun i hi => by
      rw [fit_at i hi, hc]
      have : ¬ ((i : Int) = -1) := by omega
      simp [this]
    rw [this, if_pos rfl]
    have : cntR (fun _ => true) S = S := by rw [cntR, List.filter_eq_self.2 (by simp), List.length_range]
    rw [this]
    omega
  · rw [if_neg (by omega)]
    have h1 : cntR (fun i => decide (i ≠ j)) S ≤ cntR (fitF (segL L b es S n) (j : Int)) S := cntR_le fun i hi hx => by
      rw [fit_at i hi, hc]
      simp at hx
      have : ¬ ((i : Int) = (j : Int)) := by omega
      simp [this]
    have h2 : cntR (fun _ : Nat => true) S ≤ cntR (fun i => decide (i ≠ j)) S + 1 := cntR_le1 j fun i hi hne _ => by simp [hne]
    have h3 : cntR (fun _ : Nat => true) S = S := by rw [cntR, List.filter_eq_self.2 (by simp), List.length_range]
    have h4 : ((S : Int) - 1) * b ≤ (cntR (fitF (segL L b es S n) (j : Int)) S : Int) * b := Int.mul_le_mul_of_nonneg_right (by omega) (by omega)
    rw [Int.sub_mul, Int.one_mul] at h4
    omega
theorem TInv.act' {L b : Int} {S n : Nat} {es : List (Int × Bool)} {a u : Int} (h : TInv L b S n es a u) : a = -1 ∨ ∃ j : Nat, a = (j : Int) ∧ j < S := by
  rcases h.act with h | ⟨j, h1, h2, _⟩
  · exact .inl h.1
  · exact .inr ⟨j, h1, h2⟩
theorem step_again0 (hK : K.Ok) (hP : P.Ok K) {w : World} (h : Hold K (Q3 K P) w) (h0 : P.f = 0) :
    Calls Tryz.prog 31 #[.pointer (some ⟨K.E, 0, none⟩), .agg (callV (1 : Nat) P.g P.dt)] w fun e w' => e = .returned (.agg (ansV 24 ⟨#[]⟩)) ∧ Hold K (Q4 K P) w' ∧ Fr K.B w w' := by
  obtain ⟨Dm, gt, tc, es, q, a, u, o, rd, ps, ds, st, hps, hz, ho, ho'⟩ := h
  have hlv := zero_live hz
  have hf := hP.hf'
  rw [h0] at hf
  simp only [Int.natCast_zero, Int.zero_mul, Int.zero_add] at hf
  refine (st_refused hK st P.g P.dt P.m hP.hm hP.hdt hP.hg (by omega)).mono ?_
  rintro e w' ⟨h1, h2, h3⟩
  exact ⟨h1, ⟨Dm, gt, tc, es, q, a, u, o, rd, ps, ds, h2, by rw [Q4, if_pos h0]; exact hps⟩, h3⟩
theorem step_again (hK : K.Ok) (hP : P.Ok K) {w : World} (h : Hold K (Q3 K P) w) (h0 : P.f ≠ 0) :
    Calls Tryz.prog 31 #[.pointer (some ⟨K.E, 0, none⟩), .agg (callV (1 : Nat) P.g P.dt)] w fun e w' => e = .returned (.agg (ansV 0 ⟨#[]⟩)) ∧ Hold K (Q4 K P) w' ∧ Fr K.B w w' := by
  obtain ⟨Dm, gt, tc, es, q, a, u, o, rd, ps, ds, st, rfl, hz, ho, ho'⟩ := h
  have hlv := zero_live hz
  have hg := vG_bounds hK.hv
  have hL := (logN_bounds hK.hv).1
  have hroom := zero_room (n := K.n) (L := logN K.S K.b) hz (by omega) (by omega) st.hu.2 st.inv.act'
  have hf := hP.hf
  have hmul : (1 : Int) * (P.m + 1) ≤ (P.f : Int) * (P.m + 1) := Int.mul_le_mul_of_nonneg_right (by omega) (by omega)
  refine (st_write hK st P.g P.dt P.m hP.hm hP.hdt hP.hg rfl (by omega) (by omega) ho (by omega)).mono ?_
  rintro e w' ⟨h1, ⟨es', a', u', o', rd', p, h2, h3⟩, h4⟩
  exact ⟨h1, ⟨Dm, gt, tc, es', q, a', u', o', rd', _, ds, h2, by rw [Q4, if_neg h0]; exact ⟨p, rfl, h3.nm, h3.sz, h3.ln, h3.data⟩⟩, h4⟩
theorem step_last0 (hK : K.Ok) (hP : P.Ok K) {w : World} (h : Hold K (Q4 K P) w) (h0 : P.f = 0) :
    Calls Tryz.prog 31 #[.pointer (some ⟨K.E, 0, none⟩), .agg (callV (2 : Nat) P.g ⟨#[]⟩)] w fun e w' => e = .returned (.agg (ansV 22 ⟨#[]⟩)) ∧ Hold K (fun _ _ _ _ _ _ _ _ => True) w' ∧ Fr K.B w w' := by
  obtain ⟨Dm, gt, tc, es, q, a, u, o, rd, ps, ds, st, h4⟩ := h
  rw [Q4, if_pos h0] at h4
  subst h4
  refine (st_miss hK st P.g hP.hg rfl).mono ?_
  rintro e w' ⟨h1, h2, h3⟩
  exact ⟨h1, ⟨Dm, gt, tc, es, q, a, u, o, rd, [], ds, h2, trivial⟩, h3⟩
theorem step_last (hK : K.Ok) (hP : P.Ok K) {w : World} (h : Hold K (Q4 K P) w) (h0 : P.f ≠ 0) :
    Calls Tryz.prog 31 #[.pointer (some ⟨K.E, 0, none⟩), .agg (callV (2 : Nat) P.g ⟨#[]⟩)] w fun e w' => e = .returned (.agg (ansV 0 P.dt)) ∧ Hold K (fun _ _ _ _ _ _ _ _ => True) w' ∧ Fr K.B w w' := by
  obtain ⟨Dm, gt, tc, es, q, a, u, o, rd, ps, ds, st, h4⟩ := h
  rw [Q4, if_neg h0] at h4
  obtain ⟨p, rfl, h5, h6, h7, h8⟩ := h4
  refine (st_read hK st P.g P.dt P.m hP.hdt hP.hg p List.mem_cons_self (by rw [List.map_cons, lookF, if_pos h5.symm]) h6 h7 h8).mono ?_
  rintro e w' ⟨h1, h2, h3⟩
  exact ⟨h1, ⟨Dm, gt, tc, es, q, a, u, o, rd, [p], ds, h2, trivial⟩, h3⟩
/-- The calls, their answers, the states between. -/
def Pl.cs (P : Pl) (j : Nat) : Nat × ByteArray × ByteArray :=
  if j ≤ P.f then (1, P.nm j, P.dt) else if j = P.f + 1 then (6, ⟨#[]⟩, ⟨#[]⟩) else if j < 2 * P.f + 2 then (4, P.nm (j - (P.f + 2)), ⟨#[]⟩)
  else if j = 2 * P.f + 2 then (1, P.g, P.dt) else if j = 2 * P.f + 3 then (6, ⟨#[]⟩, ⟨#[]⟩) else if j = 2 * P.f + 4 then (1, P.g, P.dt) else (2, P.g, ⟨#[]⟩)
def Pl.an (P : Pl) (j : Nat) : Int × ByteArray :=
  if j = P.f then (24, ⟨#[]⟩) else if j = 2 * P.f + 2 then (24, ⟨#[]⟩) else if j = 2 * P.f + 4 then (if P.f = 0 then (24, ⟨#[]⟩) else (0, ⟨#[]⟩))
  else if j = 2 * P.f + 5 then (if P.f = 0 then (22, ⟨#[]⟩) else (0, P.dt)) else (0, ⟨#[]⟩)
def Pl.Q (P : Pl) (K : Cx) (j : Nat) : List (Int × Bool) → Int → Int → Int → Int → (Int → List Int) → List FP → List FP → Prop :=
  if j ≤ P.f then Q1 K P j else if j = P.f + 1 then Q1 K P P.f else if j < 2 * P.f + 2 then Q2 K P (j - (P.f + 2)) else if j = 2 * P.f + 2 then Q2 K P P.f
  else if j = 2 * P.f + 3 then Q2 K P P.f else if j = 2 * P.f + 4 then Q3 K P else if j = 2 * P.f + 5 then Q4 K P else fun _ _ _ _ _ _ _ _ => True
theorem step_all (hK : K.Ok) (hP : P.Ok K) (hfs : P.f ≤ 1000) (j : Nat) (hj : j < 2 * P.f + 6) (V : World) (h : Hold K (P.Q K j) V) :
    Calls Tryz.prog 31 #[.pointer (some ⟨K.E, 0, none⟩), .agg (callV (P.cs j).1 (P.cs j).2.1 (P.cs j).2.2)] V fun e w' => e = .returned (.agg (ansV (P.an j).1 (P.an j).2)) ∧ Hold K (P.Q K (j + 1)) w' ∧ Fr K.B V w' := by
  by_cases c1 : j < P.f
  · have e1 : P.Q K j = Q1 K P j := by rw [Pl.Q, if_pos (by omega)]
    have e2 : P.cs j = (1, P.nm j, P.dt) := by rw [Pl.cs, if_pos (by omega)]
    have e3 : P.an j = (0, ⟨#[]⟩) := by rw [Pl.an, if_neg (by omega), if_neg (by omega), if_neg (by omega), if_neg (by omega)]
    have e4 : P.Q K (j + 1) = Q1 K P (j + 1) := by rw [Pl.Q, if_pos (by omega)]
    rw [e1] at h; rw [e2, e3, e4]
    exact step_write hK hP j c1 h (by omega)
  by_cases c2 : j = P.f
  · have e1 : P.Q K j = Q1 K P P.f := by rw [Pl.Q, if_pos (by omega), c2]
    have e2 : P.cs j = (1, P.nm P.f, P.dt) := by rw [Pl.cs, if_pos (by omega), c2]
    have e3 : P.an j = (24, ⟨#[]⟩) := by rw [Pl.an, if_pos c2]
    have e4 : P.Q K (j + 1) = Q1 K P P.f := by rw [Pl.Q, if_neg (by omega), if_pos (by omega)]
    rw [e1] at h; rw [e2, e3, e4]
    exact step_full hK hP h
  by_cases c3 : j = P.f + 1
  · have e1 : P.Q K j = Q1 K P P.f := by rw [Pl.Q, if_neg (by omega), if_pos c3]
    have e2 : P.cs j = (6, ⟨#[]⟩, ⟨#[]⟩) := by rw [Pl.cs, if_neg (by omega), if_pos c3]
    have e3 : P.an j = (0, ⟨#[]⟩) := by rw [Pl.an, if_neg (by omega), if_neg (by omega), if_neg (by omega), if_neg (by omega)]
    have e4 : P.Q K (j + 1) = Q2 K P 0 := by
      by_cases c : P.f = 0
      · rw [Pl.Q, if_neg (by omega), if_neg (by omega), if_neg (by omega), if_pos (by omega), c]
      · rw [Pl.Q, if_neg (by omega), if_neg (by omega), if_pos (by omega), show j + 1 - (P.f + 2) = 0 by omega]
    rw [e1] at h; rw [e2, e3, e4]
    exact step_sync1 hK hP h hfs
  by_cases c4 : j < 2 * P.f + 2
  · have e1 : P.Q K j = Q2 K P (j - (P.f + 2)) := by rw [Pl.Q, if_neg (by omega), if_neg (by omega), if_pos c4]
    have e2 : P.cs j = (4, P.nm (j - (P.f + 2)), ⟨#[]⟩) := by rw [Pl.cs, if_neg (by omega), if_neg (by omega), if_pos c4]
    have e3 : P.an j = (0, ⟨#[]⟩) := by rw [Pl.an, if_neg (by omega), if_neg (by omega), if_neg (by omega), if_neg (by omega)]
    have e4 : P.Q K (j + 1) = Q2 K P (j - (P.f + 2) + 1) := by
      by_cases c : j + 1 < 2 * P.f + 2
      · rw [Pl.Q, if_neg (by omega), if_neg (by omega), if_pos c, show j + 1 - (P.f + 2) = j - (P.f + 2) + 1 by omega]
      · rw [Pl.Q, if_neg (by omega), if_neg (by omega), if_neg (by omega), if_pos (by omega), show j - (P.f + 2) + 1 = P.f by omega]
    rw [e1] at h; rw [e2, e3, e4]
    exact step_delete hK hP _ (by omega) h
  by_cases c5 : j = 2 * P.f + 2
  · have e1 : P.Q K j = Q2 K P P.f := by rw [Pl.Q, if_neg (by omega), if_neg (by omega), if_neg (by omega), if_pos c5]
    have e2 : P.cs j = (1, P.g, P.dt) := by rw [Pl.cs, if_neg (by omega), if_neg (by omega), if_neg (by omega), if_pos c5]
    have e3 : P.an j = (24, ⟨#[]⟩) := by rw [Pl.an, if_neg (by omega), if_pos c5]
    have e4 : P.Q K (j + 1) = Q2 K P P.f := by rw [Pl.Q, if_neg (by omega), if_neg (by omega), if_neg (by omega), if_neg (by omega), if_pos (by omega)]
    rw [e1] at h; rw [e2, e3, e4]
    exact step_none hK hP h
  by_cases c6 : j = 2 * P.f + 3
  · have e1 : P.Q K j = Q2 K P P.f := by rw [Pl.Q, if_neg (by omega), if_neg (by omega), if_neg (by omega), if_neg (by omega), if_pos c6]
    have e2 : P.cs j = (6, ⟨#[]⟩, ⟨#[]⟩) := by rw [Pl.cs, if_neg (by omega), if_neg (by omega), if_neg (by omega), if_neg (by omega), if_pos c6]
    have e3 : P.an j = (0, ⟨#[]⟩) := by rw [Pl.an, if_neg (by omega), if_neg (by omega), if_neg (by omega), if_neg (by omega)]
    have e4 : P.Q K (j + 1) = Q3 K P := by rw [Pl.Q, if_neg (by omega), if_neg (by omega), if_neg (by omega), if_neg (by omega), if_neg (by omega), if_pos (by omega)]
    rw [e1] at h; rw [e2, e3, e4]
    exact step_sync2 hK hP h
  by_cases c7 : j = 2 * P.f + 4
  · have e1 : P.Q K j = Q3 K P := by rw [Pl.Q, if_neg (by omega), if_neg (by omega), if_neg (by omega), if_neg (by omega), if_neg (by omega), if_pos c7]
    have e2 : P.cs j = (1, P.g, P.dt) := by rw [Pl.cs, if_neg (by omega), if_neg (by omega), if_neg (by omega), if_neg (by omega), if_neg (by omega), if_pos c7]
    have e4 : P.Q K (j + 1) = Q4 K P := by rw [Pl.Q, if_neg (by omega), if_neg (by omega), if_neg (by omega), if_neg (by omega), if_neg (by omega), if_neg (by omega), if_pos (by omega)]
    rw [e1] at h; rw [e2, e4]
    by_cases c : P.f = 0
    · have e3 : P.an j = (24, ⟨#[]⟩) := by rw [Pl.an, if_neg (by omega), if_neg (by omega), if_pos c7, if_pos c]
      rw [e3]; exact step_again0 hK hP h c
    · have e3 : P.an j = (0, ⟨#[]⟩) := by rw [Pl.an, if_neg (by omega), if_neg (by omega), if_pos c7, if_neg c]
      rw [e3]; exact step_again hK hP h c
  have c8 : j = 2 * P.f + 5 := by omega
  have e1 : P.Q K j = Q4 K P := by rw [Pl.Q, if_neg (by omega), if_neg (by omega), if_neg (by omega), if_neg (by omega), if_neg (by omega), if_neg (by omega), if_pos c8]
  have e2 : P.cs j = (2, P.g, ⟨#[]⟩) := by rw [Pl.cs, if_neg (by omega), if_neg (by omega), if_neg (by omega), if_neg (by omega), if_neg (by omega), if_neg (by omega)]
  have e4 : P.Q K (j + 1) = fun _ _ _ _ _ _ _ _ => True := by rw [Pl.Q, if_neg (by omega), if_neg (by omega), if_neg (by omega), if_neg (by omega), if_neg (by omega), if_neg (by omega), if_neg (by omega)]
  rw [e1] at h; rw [e2, e4]
  by_cases c : P.f = 0
  · have e3 : P.an j = (22, ⟨#[]⟩) := by rw [Pl.an, if_neg (by omega), if_neg (by omega), if_neg (by omega), if_pos c8, if_pos c]
    rw [e3]; exact step_last0 hK hP h c
  · have e3 : P.an j = (0, P.dt) := by rw [Pl.an, if_neg (by omega), if_neg (by omega), if_neg (by omega), if_pos c8, if_neg c]
    rw [e3]; exact step_last hK hP h c
end
end Go.Proofs.YtonpdbajoidigaaGreatDoor

/-
  FnSpace: the image of a formatted disk.
-/
namespace Go.Proofs.YtonpdbajoidigaaGreatDoor
open Go.RowKit
set_option linter.unusedSimpArgs false
set_option linter.unusedVariables false

theorem zero_eA (n i : Nat) : eA (List.replicate n ((0 : Int), false)) i = 0 := eA_zero n i
theorem zero_eI (n i : Nat) (h : i < n) : eI (List.replicate n ((0 : Int), false)) i = false := by simp [eI, h]
theorem zero_seg (L b : Int) (S n : Nat) (hS : 1 ≤ S) (hL : 1 ≤ L) (hb : 0 ≤ b) : (segL L b (List.replicate n ((0 : Int), false)) S n)[0]?.getD 0 = 0 := by
  rw [seg_at 0 (by omega), cntS_R]
  have : cntR (fun i => segB L b 0 (eA (List.replicate n ((0 : Int), false)) i)) n = cntR (fun _ => false) n := cntR_same fun i hi => by rw [zero_eA, segB_zero hL hb]
  rw [this, cntR]
  simp
/-- What a formatted disk has. -/
structure Fmd (rd : Int → List Int) (S : Nat) (b : Int) (T n nb : Nat) : Prop where
  hnb : nb ≤ 4096
  hv : vG (S : Int) b = true
  hn : (n : Int) = S * b
  hT : nblk (2 * ((S : Int) * b)) = (T : Int)
  hT3 : T ≤ 33
  r0 : rd 0 = List.replicate 64 0
  r1 : rd (1 + (T : Int)) = hdrL 1 S b
  hr : ∀ i : Nat, i < T → rd (1 + (T : Int) + 1 + i) = List.replicate 64 0
  hnT : 2 * (1 + (T : Int)) ≤ (nb : Int)
set_option maxRecDepth 100000 in
set_option maxHeartbeats 4000000 in
theorem readImage_fmt (B C nb M : Nat) (rd : Int → List Int) (S : Nat) (b : Int) (T n : Nat) (w : World) (hD : DS B w C nb M 256 rd) (hF : Fmd rd S b T n nb) :
    Calls Tryz.prog 19 #[.pointer (some ⟨C, 0, none⟩), .agg #[.int .i64 (S : Int), .int .i64 b]] w fun e w' => (∃ gt tc ka kc fa fc, e = .returned (.tuple #[.agg #[.int .i64 1, .slice (some ⟨gt, 0, none⟩) n tc, .slice ka S kc, .slice fa 0 fc], .int .i64 0]) ∧ TAt w.heap.size w' gt tc n (List.replicate n (0, false))) ∧ Below w.heap.size w w' := by
  obtain ⟨hnb, hv, hn, hT, hT3, r0, r1, hr, hnT⟩ := hF
  have hm := vG_mul hv
  have hg := vG_yes hv
  have hn1 : n ≤ 1024 := by omega
  have hL := (logN_bounds hv).1
  have HFR : Hid (∀ V, Below w.heap.size w V → Calls Tryz.prog 38 #[.pointer (some ⟨C, 0, none⟩), .agg #[.int .i64 (S : Int), .int .i64 b]] V fun e w' => e = .returned (.tuple #[.int .i64 1, .bool true]) ∧ Below V.heap.size V w') := fun V hV => findRoot_fmt B C nb M rd S b T V (hD.kd (S := fun _ => False) hV) hnb hv hT hT3 r0 r1 (by omega)
  have HRT : Hid (∀ V, Below w.heap.size w V → Calls Tryz.prog 39 #[.pointer (some ⟨C, 0, none⟩), .agg #[.int .i64 (S : Int), .int .i64 b], .int .i64 1] V fun e w' => (∃ gt tc, e = .returned (.tuple #[.slice (some ⟨gt, 0, none⟩) n tc, .bool true]) ∧ TAt V.heap.size w' gt tc n (List.replicate n (0, false))) ∧ Below V.heap.size V w') := fun V hV => readTable_fmt B C nb M rd S b T n V (hD.kd (S := fun _ => False) hV) hnb hv hn hT hT3 hr hnT
  have HRI : Hid (∀ V a c, ERead V a n (List.replicate n (0, false)) → Calls Tryz.prog 40 #[.pointer (some ⟨C, 0, none⟩), .slice a n c] V fun e w' => (∃ a' c', e = .returned (.tuple #[.slice a' 0 c', .bool true])) ∧ Below V.heap.size V w') := fun V a c h => readInodes_none C a n c _ V h (by omega) (fun i hi => zero_eI n i hi)
  have HGB : Hid (∀ V a c f fc, ERead V a n (List.replicate n (0, false)) → Calls Tryz.prog 41 #[.slice a n c, .slice f 0 fc] V fun e w' => e = .returned (.bool true) ∧ Below V.heap.size V w') := fun V a c f fc h => goodBlocks_zero a n c _ f fc V h (by omega) (fun i hi => zero_eA n i)
  have HSC : Hid (∀ V a c, ERead V a n (List.replicate n (0, false)) → Calls Tryz.prog 42 #[.slice a n c, .agg #[.int .i64 (S : Int), .int .i64 b]] V fun e w' => ∃ a' c', e = .returned (.slice a' S c') ∧ IRow .i64 w' a' S (segL (logN S b) b (List.replicate n (0, false)) S n) ∧ Below V.heap.size V w') := fun V a c h => (segCounts_good a n c _ S b V h (by omega) hv).mono fun e w' ⟨a', c', h1, h2, h3⟩ => ⟨a', c', h1, h2.read, h3⟩
  have HHR : Hid (∀ V a c a' c', ERead V a n (List.replicate n (0, false)) → IRow .i64 V a' S (segL (logN S b) b (List.replicate n (0, false)) S n) → Calls Tryz.prog 43 #[.slice a n c, .slice a' S c', .agg #[.int .i64 (S : Int), .int .i64 b]] V fun e w' => e = .returned (.bool true) ∧ Below V.heap.size V w') := fun V a c a' c' h h' => hasRoom_yes a n c _ a' S c' b _ V h (by omega) (zero_live fun i _ => zero_eA n i) h' hv (zero_seg _ b S n (by omega) (by omega) (by omega))
  obtain ⟨W1, hW1⟩ : ∃ W1, w.alloc (.cells #[.int .i64 (S : Int), .int .i64 b] 25) = W1 := ⟨_, rfl⟩
  have hb1 : Below w.heap.size w W1 := by rw [← hW1]; exact (Below.refl _ _).alloc (Nat.le_refl _) _
  have k1 : W1.heap[w.heap.size]? = some (.cells #[.int .i64 (S : Int), .int .i64 b] 25 (0, 0)) := by rw [← hW1]; exact heap_alloc_new w _
  obtain ⟨W2, hW2⟩ : ∃ W2, W1.alloc (.cells #[.int .i64 0, .slice none 0 0, .slice none 0 0, .slice none 0 0] 49) = W2 := ⟨_, rfl⟩
  have hb2 : Below W1.heap.size W1 W2 := by rw [← hW2]; exact (Below.refl _ _).alloc (Nat.le_refl _) _
  have k2 : W2.heap[W1.heap.size]? = some (.cells #[.int .i64 0, .slice none 0 0, .slice none 0 0, .slice none 0 0] 49 (0, 0)) := by rw [← hW2]; exact heap_alloc_new W1 _
  have l1 : w.heap.size < W1.heap.size := (Array.getElem?_eq_some_iff.1 k1).1
  have l2 : W1.heap.size < W2.heap.size := (Array.getElem?_eq_some_iff.1 k2).1
  have l12 : w.heap.size < W2.heap.size := by omega
  have k12 : W2.heap[w.heap.size]? = some (.cells #[.int .i64 (S : Int), .int .i64 b] 25 (0, 0)) := (hb2.block _ l1).trans k1
  obtain ⟨⟨x0, x1⟩, _⟩ := cells2g k12
  have HB2 : Hid (Below w.heap.size w W2) := hb1.trans (hb2.mono hb1.size)
  have HK := Lib.hid (And.intro k12 k2)
  clear hD hb1 hb2 k1 k2 k12 hnb hv hn hT hT3 r0 r1 hr hnT hm hL
  go_enter Tryz.func19, Tryz.ntmps19
  go_wp2_with fail
  refine (HFR.out _ HB2.out).mono ?_
  rintro e w3 ⟨rfl, hb3⟩
  obtain ⟨⟨c0, c1⟩, _⟩ := cells2g ((hb3.block _ l12).trans HK.out.1)
  have HB3 := Lib.hid hb3
  clear hb3 x0 x1
  go_wp2_with fail
  refine (HRT.out w3 (HB2.out.trans (HB3.out.mono HB2.out.size))).mono ?_
  rintro e w4 ⟨⟨gt, tc, rfl, hT4⟩, hb4⟩
  have hb4' := HB3.out.trans (hb4.mono HB3.out.size)
  have HT4 : Hid (TAt w.heap.size w4 gt tc n (List.replicate n (0, false))) := owns_base hT4 (by have := HB3.out.size; omega)
  have HB4 := Lib.hid hb4'
  clear hT4 hb4 hb4' HB3 c0 c1
  go_wp2_with fail
  refine (HRI.out w4 _ tc HT4.out.read).mono ?_
  rintro e w5 ⟨⟨fa, fc, rfl⟩, hb5⟩
  have HB5 := Lib.hid (HB4.out.trans (hb5.mono HB4.out.size))
  have HT5 := Lib.hid (HT4.out.kd (S := fun _ => False) (Kd.of_below hb5) id)
  clear hb5 HB4 HT4
  go_wp2_with fail
  refine (HGB.out w5 _ tc fa fc HT5.out.read).mono ?_
  rintro e w6 ⟨rfl, hb6⟩
  have HB6 := Lib.hid (HB5.out.trans (hb6.mono HB5.out.size))
  have HT6 := Lib.hid (HT5.out.kd (S := fun _ => False) (Kd.of_below hb6) id)
  obtain ⟨⟨c0, c1⟩, _⟩ := cells2g ((HB6.out.block _ l12).trans HK.out.1)
  clear hb6 HB5 HT5
  go_wp2_with fail
  refine (HSC.out w6 _ tc HT6.out.read).mono ?_
  rintro e w7 ⟨a', c', rfl, hr7, hb7⟩
  have HB7 := Lib.hid (HB6.out.trans (hb7.mono HB6.out.size))
  have HT7 := Lib.hid (HT6.out.kd (S := fun _ => False) (Kd.of_below hb7) id)
  have HR7 := Lib.hid hr7
  clear c0 c1
  obtain ⟨⟨c0, c1⟩, _⟩ := cells2g ((HB7.out.block _ l12).trans HK.out.1)
  clear hb7 HB6 HT6 hr7
  go_wp2_with fail
  refine (HHR.out w7 _ tc a' c' HT7.out.read HR7.out).mono ?_
  rintro e w8 ⟨rfl, hb8⟩
  have HB8 := Lib.hid (HB7.out.trans (hb8.mono HB7.out.size))
  have HT8 := Lib.hid (HT7.out.kd (S := fun _ => False) (Kd.of_below hb8) id)
  clear hb8 HB7 HT7 HR7 c0 c1
  go_wp2_with fail
  refine (sortF_zero fa fc _ w8).mono ?_
  rintro e w9 ⟨⟨v9, rfl⟩, rfl⟩
  have k9 := (HB8.out.block _ l2).trans HK.out.2
  obtain ⟨⟨y0, y1, y2, y3⟩, f0, f1, f2, f3⟩ := four_ofF k9
  have hB9 := HB2.out.trans (HB8.out.mono HB2.out.size)
  obtain ⟨W10, hW10⟩ : ∃ W10, (((w9.setCell ⟨W1.heap.size, 0, none⟩ (.int .i64 1)).setCell ⟨W1.heap.size, 1, none⟩ (.slice (some ⟨gt, 0, none⟩) n tc)).setCell ⟨W1.heap.size, 2, none⟩ (.slice a' S c')).setCell ⟨W1.heap.size, 3, none⟩ (.slice fa 0 fc) = W10 := ⟨_, rfl⟩
  have k10 : W10.heap[W1.heap.size]? = some (.cells #[.int .i64 1, .slice (some ⟨gt, 0, none⟩) n tc, .slice a' S c', .slice fa 0 fc] 49 (0, 0)) := by rw [← hW10]; exact four_set k9 _ _ _ _
  have hk10 : Kept (fun g => g = W1.heap.size) w9 W10 := by
    rw [← hW10]
    exact (((Kept.setCell w9 ⟨W1.heap.size, 0, none⟩ _ (fun g => g = W1.heap.size) rfl).trans (Kept.setCell _ ⟨W1.heap.size, 1, none⟩ _ (fun g => g = W1.heap.size) rfl)).trans (Kept.setCell _ ⟨W1.heap.size, 2, none⟩ _ (fun g => g = W1.heap.size) rfl)).trans (Kept.setCell _ ⟨W1.heap.size, 3, none⟩ _ (fun g => g = W1.heap.size) rfl)
  obtain ⟨⟨z0, z1, z2, z3⟩, _⟩ := four_ofF k10
  have HF : Hid (Below w.heap.size w W10 ∧ TAt w.heap.size W10 gt tc n (List.replicate n (0, false))) := ⟨hB9.trans (hk10.below hB9.size (fun g hg => by omega)), HT8.out.keptT k9 (by decide) hk10⟩
  clear k9 hB9 k10 hk10 HB8 HT8 HB2 HK
  go_wp2
  refine bodyPost_ret (v := .tuple #[.agg #[.int .i64 1, .slice (some ⟨gt, 0, none⟩) n tc, .slice a' S c', .slice fa 0 fc], .int .i64 0]) (by simp [results, Tryz.results19, go_sem, z0, z1, z2, z3]) rfl ?_
  exact ⟨⟨gt, tc, _, _, fa, fc, rfl, HF.out.2⟩, HF.out.1⟩
end Go.Proofs.YtonpdbajoidigaaGreatDoor
