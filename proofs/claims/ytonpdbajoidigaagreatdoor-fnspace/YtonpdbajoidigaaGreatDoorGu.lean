/-
  Spx, Spy, Spz, Sra.
-/
import Derived.Test.YtonpdbajoidigaaGreatDoorSpw
import Derived.Laws.Externs
/-
  FnSpace: a set of files copied.
-/
namespace Go.Proofs.YtonpdbajoidigaaGreatDoor
open Go.RowKit
set_option linter.unusedSimpArgs false
set_option linter.unusedVariables false

theorem map_nilIn (d r : Nat) (W : World) : (Op.equalIn (d + 1) 58 (.map (some r)) (.map none)).run Tryz.prog W = .ok false W := by
  simp [Op.equalIn, run_underlying Tryz.underlying58]
theorem map_nilEq (r : Nat) (W : World) : (binOp .eql 58 (.map (some r)) (.map none)).run Tryz.prog W = .ok (.bool false) W := by
  simp only [binOp]
  simp [show Op.equal 58 (.map (some r)) (.map none) = Op.equalIn (9999 + 1) 58 (.map (some r)) (.map none) from rfl, map_nilIn 9999 r]
theorem map_assert (v : Value) (xT : TypeId) (W : World) : (Instr.typeAssert (.iface 58 v) xT 58 false).run Tryz.prog W = .ok v W := by
  simp [Instr.typeAssert, run_underlying Tryz.underlying58, go_sem, Result.andThen]
theorem map_copy {r : Nat} {es : Array MapEntry} {clock : Nat} (w : World) (t : TypeId) (hb : w.heap[r]? = some (.map es clock)) : (Extern.MapsClone.clone #[.iface t (.map (some r))]).run Tryz.prog w = .ok (.iface t (.map (some w.heap.size))) (w.alloc (.map es clock)) := by
  have e : Extern.MapsClone.clone #[.iface t (.map (some r))] = (getObj r >>= fun o => match o with
      | .map entries clock => (newObj (.map entries clock) >>= fun n => pure (.iface t (.map (some n))))
      | _ => stuck "maps.clone: a map expected") := rfl
  rw [e]
  simp [MapKept.run_getObj_map hb, Result.andThen, go_sem]
set_option maxRecDepth 100000 in
set_option maxHeartbeats 2000000 in
theorem mclone_any (r : Nat) (fs : List FR) (w : World) (h : MF w r fs) :
    Calls Tryz.prog 94 #[.map (some r)] w fun e w' => e = .returned (.map (some w.heap.size)) ∧ MF w' w.heap.size fs ∧ Below w.heap.size w w' := by
  obtain ⟨arr, clock, h1, h2, hst⟩ := h
  have HM : Hid (MF (w.alloc (.map arr clock)) w.heap.size fs ∧ Below w.heap.size w (w.alloc (.map arr clock))) := ⟨⟨arr, clock, heap_alloc_new w _, h2, hst⟩, (Below.refl _ _).alloc (Nat.le_refl _) _⟩
  have hq := map_nilEq r
  clear h2 hst
  go_enter Tryz.func94, Tryz.ntmps94
  go_wp2
  rw [run_callFunc_extern Tryz.func151 (by kernel_rfl) (by kernel_rfl) (by kernel_rfl) (e := Extern.MapsClone.clone) (by kernel_rfl), map_copy w _ h1]
  simp only [Result.andThen]
  rw [Oper.upon_value]
  go_wp2
  rw [map_assert]
  simp only [Result.andThen]
  rw [Oper.upon_value]
  go_wp2
  go_ret
  exact ⟨rfl, HM.out⟩
set_option maxRecDepth 100000 in
set_option maxHeartbeats 2000000 in
theorem become_any (E C : Nat) (s b : Int) (W Dm : Nat) (tb : Value) (q a u o : Int) (hs : List Value) (r : Nat) (fs : List FR) (w : World) (hE : EngAt w E C s b W Dm tb q a u o hs) (h : MF w r fs) :
    Calls Tryz.prog 53 #[.pointer (some ⟨E, 9, none⟩), .agg #[.map (some r)]] w fun e w' => (∃ v, e = .returned v) ∧ ∃ D', EngAt w' E C s b W D' tb q a u o hs ∧ MF w' D' fs ∧ w.heap.size ≤ D' ∧ Kept (fun g => g = E) w w' := by
  obtain ⟨W1, hW1⟩ : ∃ W1, w.alloc (.cells #[.map (some r)] 60) = W1 := ⟨_, rfl⟩
  have hb : Below w.heap.size w W1 := by rw [← hW1]; exact (Below.refl _ _).alloc (Nat.le_refl _) _
  have k1 : W1.heap[w.heap.size]? = some (.cells #[.map (some r)] 60 (0, 0)) := by rw [← hW1]; exact heap_alloc_new w _
  have x0 := cell_oneB k1
  have HC : Hid (Calls Tryz.prog 94 #[.map (some r)] W1 fun e w' => e = .returned (.map (some W1.heap.size)) ∧ MF w' W1.heap.size fs ∧ Below W1.heap.size W1 w') := mclone_any r fs W1 (h.kd (S := fun _ => False) (Kd.of_below hb) id)
  have HE1 : Hid (EngAt W1 E C s b W Dm tb q a u o hs ∧ Below w.heap.size w W1) := ⟨(hb.block E hE.lt).trans hE, hb⟩
  have hsz := hb.size
  clear h k1 hb hE
  go_enter Tryz.func53, Tryz.ntmps53
  go_wp2_with fail
  refine HC.out.mono ?_
  rintro e w2 ⟨rfl, hm2, hb2⟩
  have hE2 : EngAt w2 E C s b W Dm tb q a u o hs := (hb2.block E HE1.out.1.lt).trans HE1.out.1
  have c9 := hE2.c9
  have f9 := hE2.fz 9
  have HF : Hid (∃ D', EngAt (w2.setCell ⟨E, 9, none⟩ (.map (some W1.heap.size))) E C s b W D' tb q a u o hs ∧ MF (w2.setCell ⟨E, 9, none⟩ (.map (some W1.heap.size))) D' fs ∧ w.heap.size ≤ D' ∧ Kept (fun g => g = E) w (w2.setCell ⟨E, 9, none⟩ (.map (some W1.heap.size)))) := by
    have hk := Kept.setCell w2 ⟨E, 9, none⟩ (.map (some W1.heap.size)) (fun g => g = E) rfl
    refine ⟨W1.heap.size, ?_, hm2.kd (S := fun g => g = E) (Kd.of_kept hk fun g hg => .inl hg) (fun e => hm2.neE hE2 e.symm), hsz, ((Kept.of_below HE1.out.2 _).trans (Kept.of_below (hb2.mono (Nat.le_refl _)) _)).trans hk⟩
    unfold EngAt at *
    simp [World.setCell, Array.getElem?_modify, hE2, engL]
  clear hE2 hm2 hb2 HC HE1
  go_wp2
  go_end0
  exact ⟨⟨_, rfl⟩, HF.out⟩
end Go.Proofs.YtonpdbajoidigaaGreatDoor

/-
  FnSpace: a sync.
-/
namespace Go.Proofs.YtonpdbajoidigaaGreatDoor
open Go.RowKit
set_option linter.unusedSimpArgs false
set_option linter.unusedVariables false

def ansV (c : Int) (d : ByteArray) : Array Value := #[.int .i64 c, .string d, .slice none 0 0, .int .i64 0, .int .i64 0, .int .i64 0, .int .i64 0, .int .i64 0, .int .i64 0]
def callV (k : Int) (nm dt : ByteArray) : Array Value := #[.int .i64 k, .string nm, .string dt, .int .i64 0]
theorem FOk.kdE {B : Nat} {w w' : World} {E C nb M m : Nat} {s b : Int} {W Dm : Nat} {tb : Value} {q a u o : Int} {hs : List Value} {rd : Int → List Int} {n : Nat} {p : FP} (h : FOk w n p) (hE : EngAt w E C s b W Dm tb q a u o hs) (hD : DS B w C nb M m rd) (hk : Kd (fun g => g = C ∨ g = M ∨ g = E) w w') : FOk w' n p := by
  obtain ⟨⟨g, h1, h2⟩, h3, h4⟩ := h
  refine ⟨⟨g, h1, h2.kd hk (fun x => ?_)⟩, h3, h4⟩
  obtain ⟨_, _, cur, hc⟩ := h2
  have := hD.neTag hc (by decide)
  rcases x with x | x | x
  · exact this.1 x
  · exact this.2 x
  · unfold EngAt at hE; rw [x, hE] at hc; cases hc
theorem MF.kdE {B : Nat} {w w' : World} {E C nb M m : Nat} {s b : Int} {W Dm : Nat} {tb : Value} {q a u o : Int} {hs : List Value} {rd : Int → List Int} {r : Nat} {fs : List FR} (h : MF w r fs) (hE : EngAt w E C s b W Dm tb q a u o hs) (hD : DS B w C nb M m rd) (hr : r ≠ M) (hk : Kd (fun g => g = C ∨ g = M ∨ g = E) w w') : MF w' r fs :=
  h.kd hk (fun x => by
    rcases x with x | x | x
    · obtain ⟨xs, ws, da, dc, wa, wc, D, hc, _⟩ := hD
      exact h.neE hc.cell x.symm
    · exact hr x
    · exact h.neE hE x.symm)
theorem TAt.kdE {B : Nat} {w w' : World} {E C nb M m : Nat} {s b : Int} {W Dm : Nat} {tb : Value} {q a u o : Int} {hs : List Value} {rd : Int → List Int} {gt tc n : Nat} {es : List (Int × Bool)} (h : TAt B w gt tc n es) (hE : EngAt w E C s b W Dm tb q a u o hs) (hD : DS B w C nb M m rd) (hk : Kd (fun g => g = C ∨ g = M ∨ g = E) w w') : TAt B w' gt tc n es :=
  h.kd hk (fun x => by
    obtain ⟨cur, hc⟩ := h.tag
    have := hD.neTag hc (by decide)
    rcases x with x | x | x
    · exact this.1 x
    · exact this.2 x
    · unfold EngAt at hE; rw [x, hE] at hc; cases hc)
theorem DS.keptE {B : Nat} {w w' : World} {C nb M m : Nat} {rd : Int → List Int} (h : DS B w C nb M m rd) {E : Nat} {c : Array Value} (hE : w.heap[E]? = some (.cells c 68 (0, 0))) (hk : Kept (fun g => g = E) w w') : DS B w' C nb M m rd := by
  obtain ⟨xs, ws, da, dc, wa, wc, D, hc, h1⟩ := h
  refine ⟨xs, ws, da, dc, wa, wc, D, hc.kept hk (fun g hg e => ?_), h1⟩
  subst e
  rcases hg with e | e | e | e
  · exact (hc.neTag hE (by decide)).1 e
  · exact (hc.neTag hE (by decide)).2 e
  · exact hc.neD hE (by decide) e
  · exact hc.neW hE (by decide) e
theorem DS.keptT {B : Nat} {w w' : World} {C nb M m : Nat} {rd : Int → List Int} (h : DS B w C nb M m rd) {p : Nat} {c : Array Value} {t : TypeId} {f : Nat × Nat} (hp : w.heap[p]? = some (.cells c t f)) (h1 : t ≠ 91) (h2 : t ≠ 93) (h3 : t ≠ 74) (hk : Kept (fun g => g = p) w w') : DS B w' C nb M m rd := by
  obtain ⟨xs, ws, da, dc, wa, wc, D, hc, h4⟩ := h
  refine ⟨xs, ws, da, dc, wa, wc, D, hc.kept hk (fun g hg e => ?_), h4⟩
  subst e
  rcases hg with e | e | e | e
  · exact (hc.neTag hp h1).1 e
  · exact (hc.neTag hp h1).2 e
  · exact hc.neD hp h3 e
  · exact hc.neW hp h2 e
theorem Kd.newK {S : Nat → Prop} {w w1 w2 : World} {N : Nat} (h : Kd S w w1) (hk : Kept (fun g => g = N) w1 w2) (hN : w.heap.size ≤ N) : Kd S w w2 :=
  ⟨hk.os.trans h.os, hk.tape.trans h.tape, hk.output.trans h.output, Nat.le_trans h.size hk.size, fun g o h1 h2 h3 => by
    have hg := (Array.getElem?_eq_some_iff.1 h1).1
    have h4 := h.obj g o h1 h2 h3
    exact (hk.block g (Array.getElem?_eq_some_iff.1 h4).1 (by omega)).trans h4⟩
theorem FOk.keptT {w w' : World} {n : Nat} {p : FP} (h : FOk w n p) {g : Nat} {c : Array Value} {t : TypeId} {f : Nat × Nat} (hp : w.heap[g]? = some (.cells c t f)) (h1 : t ≠ 2) (hk : Kept (fun x => x = g) w w') : FOk w' n p := by
  obtain ⟨⟨g', k1, k2⟩, k3, k4⟩ := h
  refine ⟨⟨g', k1, k2.of_block (hk.block g' k2.lt (fun e => ?_))⟩, k3, k4⟩
  obtain ⟨_, _, cur, hc⟩ := k2
  rw [e, hp] at hc
  injection hc with hc
  injection hc with _ hc
  exact h1 hc
theorem TAt.keptT {B : Nat} {w w' : World} {gt tc n : Nat} {es : List (Int × Bool)} (h : TAt B w gt tc n es) {g : Nat} {c : Array Value} {t : TypeId} {f : Nat × Nat} (hp : w.heap[g]? = some (.cells c t f)) (h1 : t ≠ 164) (hk : Kept (fun x => x = g) w w') : TAt B w' gt tc n es :=
  h.kd (S := fun x => x = g) (Kd.of_kept hk fun g hg => .inl hg) (fun e => by
    obtain ⟨cur, hc⟩ := h.tag
    rw [e, hp] at hc
    injection hc with hc
    injection hc with _ hc
    exact h1 hc)
theorem MF.keptT {w w' : World} {r : Nat} {fs : List FR} (h : MF w r fs) {g : Nat} {c : Array Value} {t : TypeId} {f : Nat × Nat} (hp : w.heap[g]? = some (.cells c t f)) (hk : Kept (fun x => x = g) w w') : MF w' r fs :=
  h.kd (S := fun x => x = g) (Kd.of_kept hk fun g hg => .inl hg) (fun e => h.neE hp e.symm)
/-- The engine behind a sync. -/
def YPost (B : Nat) (w w' : World) (E C nb M : Nat) (S : Nat) (b : Int) (W n : Nat) (es : List (Int × Bool)) (q a u o : Int) (hs : List Value) (rd : Int → List Int) (ps : List FP) : Prop :=
  ∃ o' rd' D' gt' es', EngAt w' E C S b W D' (.slice (some ⟨gt', 0, none⟩) n n) (q + 1) a u o' hs ∧ DS B w' C nb M 256 rd' ∧ TAt B w' gt' n n es' ∧ TOf n ps es es' ∧ MF w' W (ps.map (·.1)) ∧ MF w' D' (ps.map (·.1)) ∧ (∀ p ∈ ps, FOk w' n p) ∧ o ≤ o' ∧ o' ≤ o + 80 ∧ (∀ x, logN S b ≤ x → rd' x = rd x) ∧ w.heap.size ≤ D' ∧ Below B w w' ∧ Kd (fun g => g = C ∨ g = M ∨ g = E) w w'
theorem nine_of {W : World} {r : Nat} {v0 v1 v2 v3 v4 v5 v6 v7 v8 : Value} {t : TypeId} (h : W.heap[r]? = some (.cells #[v0, v1, v2, v3, v4, v5, v6, v7, v8] t (0, 0))) : (W.cell? ⟨r, 0, none⟩ = some v0 ∧ W.cell? ⟨r, 1, none⟩ = some v1 ∧ W.cell? ⟨r, 2, none⟩ = some v2 ∧ W.cell? ⟨r, 3, none⟩ = some v3 ∧ W.cell? ⟨r, 4, none⟩ = some v4 ∧ W.cell? ⟨r, 5, none⟩ = some v5 ∧ W.cell? ⟨r, 6, none⟩ = some v6 ∧ W.cell? ⟨r, 7, none⟩ = some v7 ∧ W.cell? ⟨r, 8, none⟩ = some v8) ∧ ∀ i, W.frozen? ⟨r, i, none⟩ = false := by
  refine ⟨⟨?_, ?_, ?_, ?_, ?_, ?_, ?_, ?_, ?_⟩, fun i => ?_⟩
  all_goals first | simp [World.cell?, h] | simp [World.frozen?, h]
set_option maxRecDepth 100000 in
set_option maxHeartbeats 4000000 in
theorem sync_any (B E C nb M : Nat) (S : Nat) (b : Int) (W Dm gt tc n : Nat) (es : List (Int × Bool)) (q a u o : Int) (hs : List Value) (rd : Int → List Int) (ps : List FP) (k : Int) (nm dt : ByteArray) (w : World)
    (hE : EngAt w E C S b W Dm (.slice (some ⟨gt, 0, none⟩) n tc) q a u o hs) (hD : DS B w C nb M 256 rd) (hT : TAt B w gt tc n es) (hB : B ≤ E) (hv : vG (S : Int) b = true) (hnb : (nb : Int) = logN S b + S * b) (hn : (n : Int) = S * b) (ho : 0 ≤ o) (ho' : o ≤ 1000000000) (hq : 1 ≤ q) (hq' : q ≤ 1000) (hM : MF w W (ps.map (·.1))) (hok : ∀ p ∈ ps, FOk w n p) (hWM : W ≠ M) :
    Calls Tryz.prog 26 #[.pointer (some ⟨E, 0, none⟩), .agg (callV k nm dt)] w fun e w' => e = .returned (.agg (ansV 0 ⟨#[]⟩)) ∧ YPost B w w' E C nb M S b W n es q a u o hs rd ps := by
  obtain ⟨W1, hW1⟩ : ∃ W1, (w.alloc (.cells #[.int .i64 k, .string nm, .string dt, .int .i64 0] 29)).alloc (.cells #[.int .i64 0, .string ⟨#[]⟩, .slice none 0 0, .int .i64 0, .int .i64 0, .int .i64 0, .int .i64 0, .int .i64 0, .int .i64 0] 42) = W1 := ⟨_, rfl⟩
  have hb : Below w.heap.size w W1 := by rw [← hW1]; exact ((Below.refl _ _).alloc (Nat.le_refl _) _).alloc (by simp) _
  have k1 : W1.heap[w.heap.size + 1]? = some (.cells #[.int .i64 0, .string ⟨#[]⟩, .slice none 0 0, .int .i64 0, .int .i64 0, .int .i64 0, .int .i64 0, .int .i64 0, .int .i64 0] 42 (0, 0)) := by
    have e : (w.alloc (.cells #[.int .i64 k, .string nm, .string dt, .int .i64 0] 29)).heap.size = w.heap.size + 1 := by simp
    rw [← hW1, ← e]
    exact heap_alloc_new _ _
  have hE1 : EngAt W1 E C S b W Dm (.slice (some ⟨gt, 0, none⟩) n tc) q a u o hs := (hb.block E hE.lt).trans hE
  have hD1 := hD.kd (S := fun _ => False) hb
  have hT1 := hT.kd (S := fun _ => False) (Kd.of_below hb) id
  have hM1 := hM.kd (S := fun _ => False) (Kd.of_below hb) id
  have hok1 : ∀ p ∈ ps, FOk W1 n p := fun p hp => (hok p hp).below hb
  have c8 := hE1.c8
  have hlE := hE1.lt
  have hlE0 := hE.lt
  have HCP := Lib.hid (checkpoint_any B E C nb M S b W Dm gt tc n es q a u o hs rd W ps W1 hE1 hD1 hT1 hB hv hnb hn ho ho' hq hq' hM1 hok1)
  have HST := Lib.hid (And.intro hE1 (And.intro hD1 (And.intro hT1 (And.intro hM1 hok1))))
  have HDM := Lib.hid hD.lts
  have HB1 := Lib.hid hb
  have HK1 := Lib.hid k1
  have hn8 : 8 ≤ n ∧ n ≤ 1024 := by have := vG_mul hv; omega
  clear hE hD hT hv hnb hn hM hok hb hE1 hD1 hT1 hM1 hok1 k1
  unfold callV
  go_enter Tryz.func26, Tryz.ntmps26
  go_wp2_with fail
  refine HCP.out.mono ?_
  rintro e w2 ⟨⟨v, rfl⟩, o2, rd2, hE2, hD2, ho1, ho2, hrd2, hb2, hk2⟩
  have HST2 : Hid (EngAt w2 E C S b W Dm (.slice (some ⟨gt, 0, none⟩) n tc) (q + 1) a u o2 hs ∧ DS B w2 C nb M 256 rd2 ∧ TAt B w2 gt tc n es ∧ MF w2 W (ps.map (·.1)) ∧ (∀ p ∈ ps, FOk w2 n p) ∧ Below B w w2 ∧ Kd (fun g => g = C ∨ g = M ∨ g = E) w w2 ∧ ∀ x, logN S b ≤ x → rd2 x = rd x) := by
    obtain ⟨hE1, hD1, hT1, hM1, hok1⟩ := HST.out
    exact ⟨hE2, hD2, hT1.kdE hE1 hD1 hk2, hM1.kdE hE1 hD1 hWM hk2, fun p hp => (hok1 p hp).kdE hE1 hD1 hk2, (HB1.out.mono (by omega)).trans hb2, (Kd.of_below HB1.out).trans hk2, hrd2⟩
  have k2 : w2.heap[w.heap.size + 1]? = some (.cells #[.int .i64 0, .string ⟨#[]⟩, .slice none 0 0, .int .i64 0, .int .i64 0, .int .i64 0, .int .i64 0, .int .i64 0, .int .i64 0] 42 (0, 0)) := by
    obtain ⟨hE1, hD1, hT1, hM1, hok1⟩ := HST.out
    refine hk2.obj _ _ HK1.out (fun x => ?_) (fun x => ?_)
    · have := hD1.neTag HK1.out (by decide)
      omega
    · rcases x with ⟨c, f, x⟩ | ⟨c, f, x⟩
      · injection x with _ x; exact absurd x (by decide)
      · injection x with _ x; exact absurd x (by decide)
  have c8b := hE2.c8
  have hlE2 := hE2.lt
  have HBE : Hid (Calls Tryz.prog 53 #[.pointer (some ⟨E, 9, none⟩), .agg #[.map (some W)]] w2.drew fun e w' => (∃ v, e = .returned v) ∧ ∃ D', EngAt w' E C S b W D' (.slice (some ⟨gt, 0, none⟩) n tc) (q + 1) a u o2 hs ∧ MF w' D' (ps.map (·.1)) ∧ w2.heap.size ≤ D' ∧ Kept (fun g => g = E) w2 w') := (become_any E C S b W Dm _ (q + 1) a u o2 hs W (ps.map (·.1)) w2.drew hE2 (HST2.out.2.2.2.1.kd (S := fun _ => False) (Kd.of_below (Below.refl _ _).drew) id)).mono fun e w' ⟨h1, D', h2, h3, h4, h5⟩ => ⟨h1, D', h2, h3, h4, (Kept.of_below (Below.refl _ _).drew _).trans h5⟩
  have HK2 := Lib.hid k2
  have HO2 := Lib.hid (And.intro ho1 ho2)
  clear hE2 hD2 hrd2 hb2 hk2 HCP HST k2 ho1 ho2
  go_wp2_with fail
  go_region_law (first
    | (go_simp; go_at_call 53; refine HBE.out.mono ?_; rintro e w3 ⟨⟨v3, rfl⟩, D', hE3, hM3, hD3, hk3⟩; have HE3 := Lib.hid (And.intro hE3 (And.intro hM3 (And.intro hD3 hk3))); have c8c := hE3.c8; have hlE3 := hE3.lt; clear hE3 hM3 hD3 hk3))
  all_goals
    have HST3 : Hid (EngAt w3 E C S b W D' (.slice (some ⟨gt, 0, none⟩) n tc) (q + 1) a u o2 hs ∧ DS B w3 C nb M 256 rd2 ∧ TAt B w3 gt tc n es ∧ MF w3 W (ps.map (·.1)) ∧ MF w3 D' (ps.map (·.1)) ∧ (∀ p ∈ ps, FOk w3 n p) ∧ Below B w w3 ∧ Kd (fun g => g = C ∨ g = M ∨ g = E) w w3 ∧ w.heap.size ≤ D' ∧ w3.heap[w.heap.size + 1]? = some (.cells #[.int .i64 0, .string ⟨#[]⟩, .slice none 0 0, .int .i64 0, .int .i64 0, .int .i64 0, .int .i64 0, .int .i64 0, .int .i64 0] 42 (0, 0))) := by
      obtain ⟨hE2, hD2, hT2, hM2, hok2, hb2, hk2, _⟩ := HST2.out
      obtain ⟨hE3, hM3, hD3, hk3⟩ := HE3.out
      have kd3 : Kd (fun g => g = C ∨ g = M ∨ g = E) w2 w3 := Kd.of_kept hk3 fun g hg => .inl (.inr (.inr hg))
      exact ⟨hE3, hD2.keptE hE2 hk3, hT2.kdE hE2 hD2 kd3, hM2.kdE hE2 hD2 hWM kd3, hM3, fun p hp => (hok2 p hp).kdE hE2 hD2 kd3, hb2.trans (hk3.below (by omega) (fun g hg => by rw [hg]; exact hB)), hk2.trans kd3, Nat.le_trans hk2.size hD3, (hk3.block _ (Array.getElem?_eq_some_iff.1 HK2.out).1 (by omega)).trans HK2.out⟩
    have HTO : Hid (Calls Tryz.prog 54 #[.pointer (some ⟨E, 0, none⟩), .agg #[.map (some W)]] w3 fun e w' => ∃ gn es', e = .returned (.slice (some ⟨gn, 0, none⟩) n n) ∧ TAt w3.heap.size w' gn n n es' ∧ TOf n ps es es' ∧ Below w3.heap.size w3 w') := by
      obtain ⟨hE3, hD3, hT3, hM3, _, hok3, _⟩ := HST3.out
      exact tableOf_any B E C S b W D' gt tc n es (q + 1) a u o2 hs W ps w3 hE3 hT3 (by omega) (by omega) hM3 hok3
    have HO := Lib.hid HST2.out.2.2.2.2.2.2.2
    clear HBE HST2 HE3 HK2 HK1 HB1
    go_wp2_with fail
    refine HTO.out.mono ?_
    rintro e w4 ⟨gn, es', rfl, hT4, hO4, hb4⟩
    obtain ⟨W5, hW5⟩ : ∃ W5, w4.setCell ⟨E, 10, none⟩ (.slice (some ⟨gn, 0, none⟩) n n) = W5 := ⟨_, rfl⟩
    have hE4 : EngAt w4 E C S b W D' (.slice (some ⟨gt, 0, none⟩) n tc) (q + 1) a u o2 hs := (hb4.block E hlE3).trans HST3.out.1
    have hk5 : Kept (fun g => g = E) w4 W5 := by rw [← hW5]; exact Kept.setCell _ ⟨E, _, none⟩ _ (fun g => g = E) rfl
    have hne : ¬ (w.heap.size + 1 = E) := by omega
    have k5 : W5.heap[w.heap.size + 1]? = some (.cells #[.int .i64 0, .string ⟨#[]⟩, .slice none 0 0, .int .i64 0, .int .i64 0, .int .i64 0, .int .i64 0, .int .i64 0, .int .i64 0] 42 (0, 0)) := by
      have k3 := HST3.out.2.2.2.2.2.2.2.2.2
      have l3 := (Array.getElem?_eq_some_iff.1 k3).1
      have k4 := (hb4.block _ l3).trans k3
      exact (hk5.block _ (Array.getElem?_eq_some_iff.1 k4).1 hne).trans k4
    have HF : Hid (∀ V, Kept (fun g => g = w.heap.size + 1) W5 V → YPost B w V E C nb M S b W n es q a u o hs rd ps) := fun V hV => by
      obtain ⟨hE3, hD3, hT3, hM3, hM3', hok3, hb3, hk3, hD', _⟩ := HST3.out
      have hE5 : EngAt W5 E C S b W D' (.slice (some ⟨gn, 0, none⟩) n n) (q + 1) a u o2 hs := by rw [← hW5]; exact hE4.setTab _
      have hgE : gn ≠ E := by have := (hT4.lt gn rfl).1; omega
      have hT5 : TAt B W5 gn n n es' := (owns_base (hT4.kd (S := fun g => g = E) (Kd.of_kept hk5 fun g hg => .inl hg) hgE) (by omega))
      have hD4 := hD3.kd (S := fun _ => False) hb4
      have hD5 : DS B W5 C nb M 256 rd2 := hD4.keptE hE4 hk5
      have kd5 : Kd (fun g => g = C ∨ g = M ∨ g = E) w3 W5 := (Kd.of_below hb4).trans (Kd.of_kept hk5 fun g hg => .inl (.inr (.inr hg)))
      have hDM : D' ≠ M := fun e => by
        have := HDM.out
        omega
      have hb5 : Below B w W5 := (hb3.trans (hb4.mono (by omega))).trans (hk5.below (by have := hE4.lt; omega) (fun g hg => by rw [hg]; exact hB))
      have kdV : Kd (fun g => g = w.heap.size + 1) W5 V := Kd.of_kept hV fun g hg => .inl hg
      have hM5 := hM3.kdE hE3 hD3 hWM kd5
      have hM5' := hM3'.kdE hE3 hD3 hDM kd5
      refine ⟨o2, rd2, D', gn, es', kdV.eng hE5 (fun e => hne e.symm), hD5.keptT k5 (by decide) (by decide) (by decide) hV, hT5.keptT k5 (by decide) hV, hO4, hM5.keptT k5 hV, hM5'.keptT k5 hV, fun p hp => ((hok3 p hp).kdE hE3 hD3 kd5).keptT k5 (by decide) hV, HO2.out.1, HO2.out.2, HO.out, hD', hb5.trans (hV.below (by have := hE5.lt; omega) (fun g hg => by omega)), Kd.newK (hk3.trans kd5) hV (by omega)⟩
    have c10 := hE4.c10
    have f10 := hE4.fz 10
    clear hE4 hk5 hT4 hb4 hO4 HTO HST3
    obtain ⟨⟨x0, x1, x2, x3, x4, x5, x6, x7, x8⟩, xf⟩ := nine_of k5
    have hl5 : w.heap.size + 1 < W5.heap.size := (Array.getElem?_eq_some_iff.1 k5).1
    have xf0 := xf 0
    have xf1 := xf 1
    have xf2 := xf 2
    have xf3 := xf 3
    have xf4 := xf 4
    have xf5 := xf 5
    have xf6 := xf 6
    have xf7 := xf 7
    have xf8 := xf 8
    clear k5 xf
    go_wp2
    refine bodyPost_ret (v := .agg (ansV 0 ⟨#[]⟩)) (by simp [results, Tryz.results26, go_sem, ansV, x0, x1, x2, x3, x4, x5, x6, x7, x8]) rfl ?_
    refine ⟨rfl, HF.out _ ?_⟩
    repeat' (first | with_reducible exact Kept.refl _ _ | with_reducible refine Kept.trans ?_ (Kept.setCell _ ⟨_, _, none⟩ _ (fun g => g = w.heap.size + 1) rfl))
end Go.Proofs.YtonpdbajoidigaaGreatDoor

/-
  FnSpace: a file's data read.
-/
namespace Go.Proofs.YtonpdbajoidigaaGreatDoor
open Go.RowKit
set_option linter.unusedSimpArgs false
set_option linter.unusedVariables false

def byL (dt : ByteArray) : List Int := dt.data.toList.map fun x => (x.toNat : Int)
theorem byL_len (dt : ByteArray) : (byL dt).length = dt.size := by unfold byL; rw [List.length_map, Array.length_toList]; rfl
theorem chB_by (dt : ByteArray) (i : Nat) : chB dt i = ((byL dt).drop (64 * i)).take 64 := by unfold chB byL; simp [List.map_drop, List.map_take]
theorem byL_byt (dt : ByteArray) : Byt (byL dt) := by
  intro x hx
  unfold byL at hx
  obtain ⟨y, _, rfl⟩ := List.mem_map.1 hx
  have := y.toNat_lt
  omega
theorem str_by (dt : ByteArray) : strOf (byL dt) = dt := by
  unfold strOf byL
  rw [List.map_map]
  have : (toU ∘ fun x : UInt8 => ((x.toNat : Nat) : Int)) = id := by
    funext x
    simp [toU]
  rw [this]
  simp
theorem dread_any (B C nb M m : Nat) (rd : Int → List Int) (bk : Int) (w : World) (h : DS B w C nb M m rd) (hm : m < 4096) (hnb : nb ≤ 4096) (h0 : 0 ≤ bk) (h1 : bk < (nb : Int)) :
    Calls Tryz.prog 61 #[.pointer (some ⟨C, 0, none⟩), .int .i64 bk] w fun e w' => e = .returned (.agg (u8s (rd bk)).toArray) ∧ Below w.heap.size w w' := by
  obtain ⟨xs, ws, da, dc, wa, wc, D, hc, h2, h3, h4⟩ := h
  have := cread_any B C nb xs ws da dc wa wc M D bk w hc (by simp [Lit.wf, IntKind.min, IntKind.max, IntKind.signed, IntKind.bits]; omega) h0 h1 (by omega) hnb
  rw [h4 bk h0 h1] at this
  exact this
theorem byL_step (dt : ByteArray) (k : Nat) : (byL dt).take (64 * (k + 1)) = (byL dt).take (64 * k) ++ chB dt k := by
  rw [chB_by, show 64 * (k + 1) = 64 * k + 64 by omega, List.take_add]
theorem owns_capZ {w : World} {B e sz n : Nat} {a : Option Addr} {c : Nat} {vs : List Value} (h : w.ownsRow B e sz (.slice a n c) n vs) : n ≤ c ∧ c ≤ 9223372036854775807 := by
  rcases h.2 with ⟨e1, h0⟩ | ⟨g', cap', cur, e1, hB, hh, hcap, hmx, _⟩
  · injection e1 with _ _ e3
    subst e3
    exact ⟨by omega, by omega⟩
  · injection e1 with _ _ e3
    subst e3
    unfold maxLen at hmx
    exact ⟨hcap, by omega⟩
set_option maxRecDepth 100000 in
set_option maxHeartbeats 4000000 in
theorem readData_any (B C nb M : Nat) (rd : Int → List Int) (gt tc n : Nat) (es : List (Int × Bool)) (nm dt : ByteArray) (gl m cl : Nat) (ls : List Int) (w : World) (hD : DS B w C nb M 256 rd) (hT : TAt B w gt tc n es) (hn : n ≤ 4096) (hr : LRow w gl m ls) (hm : m ≤ 22) (hdt : dt.size = 64 * m) (hl : ∀ x ∈ ls, 1 ≤ x ∧ x ≤ (n : Int)) (hnb : nb ≤ 4096)
    (hx : ∀ j, j < m → 0 ≤ eA es (lidK ls j) ∧ eA es (lidK ls j) < (nb : Int) ∧ rd (eA es (lidK ls j)) = chB dt j) :
    Calls Tryz.prog 85 #[.pointer (some ⟨C, 0, none⟩), .slice (some ⟨gt, 0, none⟩) n tc, .agg #[.string nm, .int .i64 (dt.size : Int), .slice (some ⟨gl, 0, none⟩) m cl]] w fun e w' => e = .returned (.string dt) ∧ Below w.heap.size w w' := by
  obtain ⟨i0, hi, hz0, hz1, hz2⟩ := info_parts info5
  obtain ⟨W1, hW1⟩ : ∃ W1, w.alloc (.cells #[.string nm, .int .i64 (dt.size : Int), .slice (some ⟨gl, 0, none⟩) m cl] 117) = W1 := ⟨_, rfl⟩
  have hb : Below w.heap.size w W1 := by rw [← hW1]; exact (Below.refl _ _).alloc (Nat.le_refl _) _
  have k1 : W1.heap[w.heap.size]? = some (.cells #[.string nm, .int .i64 (dt.size : Int), .slice (some ⟨gl, 0, none⟩) m cl] 117 (0, 0)) := by rw [← hW1]; exact heap_alloc_new w _
  have l1 : w.heap.size < W1.heap.size := (Array.getElem?_eq_some_iff.1 k1).1
  obtain ⟨x0, x1, x2⟩ := three_ofI k1
  have HST := Lib.hid (And.intro hD (And.intro hT (And.intro hr (And.intro hl hx))))
  have HDT := Lib.hid hdt
  have HB1 := Lib.hid hb
  have HK1 := Lib.hid k1
  have hds : dt.size ≤ 1408 := by omega
  obtain ⟨ib, hib, hzb, _, _⟩ := info_parts info74z
  have hzv : ∀ V, (zeroValue 74).run Tryz.prog V = .ok (.agg z64.toArray) V := fun V => by simp [zeroValue, typeInfo, hib, hzb]
  have HI : Hid (∃ a c, Value.slice (some ⟨W1.heap.size, 0, none⟩) 0 0 = .slice a 0 c ∧ (W1.alloc (.cells #[] 5)).ownsRow W1.heap.size 5 1 (.slice a 0 c) 0 (u8s ((byL dt).take (64 * 0))) ∧ Below W1.heap.size W1 (W1.alloc (.cells #[] 5))) := ⟨_, _, rfl, empty_owned W1, (Below.refl _ _).alloc (Nat.le_refl _) _⟩
  clear hD hT hr hl hx hdt hb k1 hib hzb
  go_enter Tryz.func85, Tryz.ntmps85
  go_wp2
  go_loopw [7, 15] (fun dv i wr => ∃ k : Nat, k ≤ m ∧ i = .int .i64 k ∧ ∃ a c, dv = .slice a (64 * k) c ∧ Hid (wr.ownsRow W1.heap.size 5 1 (.slice a (64 * k) c) (64 * k) (u8s ((byL dt).take (64 * k))) ∧ Below W1.heap.size W1 wr)) (fun _ i _ => m - (intOf i).toNat)
  case atStart =>
    obtain ⟨a, c, h1, h2, h3⟩ := HI.out
    exact ⟨0, Nat.zero_le _, rfl, a, c, h1, h2, h3⟩
  case round =>
    obtain ⟨k, hk, rfl, a, c, rfl, HS⟩ := hrel
    clear HI
    have hbw : Below w.heap.size w wr := HB1.out.trans (HS.out.2.mono HB1.out.size)
    by_cases hlt : k < m
    · have hlt' : (k : Int) < (m : Int) := by omega
      have h0' : (0 : Int) ≤ (k : Int) := by omega
      obtain ⟨hD, hT, hr, hl, hx⟩ := HST.out
      obtain ⟨hrl, hrc, _⟩ := hr.below hbw
      have ck := hrc k hlt
      obtain ⟨ld, hld, hl1, hl2, hlk⟩ : ∃ ld : Nat, ls[k]?.getD 0 = (ld : Int) ∧ 1 ≤ ld ∧ ld ≤ n ∧ lidK ls k = ld - 1 := by
        have hkl : k < ls.length := by omega
        have := hl ls[k] (List.getElem_mem hkl)
        unfold lidK
        rw [List.getElem?_eq_getElem hkl]
        simp only [Option.getD_some]
        exact ⟨ls[k].toNat, by omega, by omega, by omega, rfl⟩
      have hTw := hT.kd (S := fun _ => False) (Kd.of_below hbw) id
      obtain ⟨⟨t1, _⟩, _⟩ := hTw.cells (ld - 1) (by omega)
      obtain ⟨hx0, hx1, hx2⟩ := hx k hlt
      rw [hlk] at hx0 hx1 hx2
      obtain ⟨X, hX⟩ : ∃ X, chB dt k = X := ⟨_, rfl⟩
      have hXL : X.length = 64 := by rw [← hX]; exact chB_len (by have := HDT.out; omega)
      have HRD : Hid (Calls Tryz.prog 61 #[.pointer (some ⟨C, 0, none⟩), .int .i64 (eA es (ld - 1))] wr fun e w' => e = .returned (.agg (u8s X).toArray) ∧ Below wr.heap.size wr w') := by
        have := dread_any B C nb M 256 rd (eA es (ld - 1)) wr (hD.kd (S := fun _ => False) hbw) (by omega) hnb hx0 hx1
        rw [hx2, hX] at this
        exact this
      have HST7 : Hid ((byL dt).take (64 * (k + 1)) = (byL dt).take (64 * k) ++ X) := by show _ = _; rw [byL_step, hX]
      have hlid : ((ld : Int) - 1).toNat = ld - 1 := by omega
      have hli0 : (0 : Int) ≤ (ld : Int) - 1 := by omega
      have hli1 : (ld : Int) - 1 < (n : Int) := by omega
      rw [hld] at ck
      have hXs : (u8s X).toArray.size = 64 := by rw [List.size_toArray, u8s_len, hXL]
      have h1X : (u8s X).toArray.all (·.oneCell') = true := by
        rw [Array.all_eq_true_iff_forall_mem]
        intro x hx
        exact many_u8 _ x (by simpa using hx)
      have HXL := Lib.hid hXL
      clear hD hT hr hl hx hrl hrc hld hlk hTw hx0 hx1 hx2 hX hXL hbw
      go_wp2_with fail
      refine HRD.out.mono ?_
      rintro e w2 ⟨rfl, hb2⟩
      obtain ⟨W3, hW3⟩ : ∃ W3, w2.alloc (.cells z64.toArray 74) = W3 := ⟨_, rfl⟩
      have hb3 : Below w2.heap.size w2 W3 := by rw [← hW3]; exact (Below.refl _ _).alloc (Nat.le_refl _) _
      have k3 : W3.heap[w2.heap.size]? = some (.cells z64.toArray 74 (0, 0)) := by rw [← hW3]; exact heap_alloc_new w2 _
      obtain ⟨W4, hW4⟩ : ∃ W4, W3.setRow w2.heap.size (u8s X).toArray = W4 := ⟨_, rfl⟩
      have k4 : W4.heap[w2.heap.size]? = some (.cells (u8s X).toArray 74 (0, 0)) := by rw [← hW4]; exact setRow_heap W3 w2.heap.size _ _ 74 _ k3
      have hb4 : Below wr.heap.size wr W4 := by rw [← hW4]; exact below_setRow (hb2.trans (hb3.mono hb2.size)) hb2.size _
      have own4 := owns_below HS.out.1 hb4
      have hB4 : Below W1.heap.size W1 W4 := HS.out.2.trans (hb4.mono HS.out.2.size)
      have HN : Hid (∀ j u, (u8s X)[j]? = some u → W4.cell? ((⟨w2.heap.size, 0, none⟩ : Addr).add j) = some u) := fun j u hu => by
        rw [Addr.add_mid, Nat.zero_add]
        have := range_of_heap k4 j u hu
        simpa using this
      have HO4 := Lib.hid (And.intro own4 hB4)
      clear HRD hb2 hb3 hb4 own4 hB4 k4 HS
      go_wp2_with (first
        | (refine wpList_store_row rfl 74 _ _ rfl w2.heap.size (u8s X).toArray rfl rfl 74 _ k3 (by rw [hXs]; exact info74b) (by rw [hXs]; rfl) h1X ?_; rw [hW4])
        | (at_builtin; refine wpList_append_own _ rfl _ _ 22 rfl W1.heap.size 5 i0 (.int .u8 0) 1 1 Tryz.underlying22 hi hz0 hz1 hz2 rfl (by decide) _ _ _ rfl HO4.out.1 ⟨w2.heap.size, 0, none⟩ 64 64 (u8s X) rfl (by rw [u8s_len, HXL.out]) HN.out (many_u8 _) (by unfold maxLen; omega) (by omega) HO4.out.2.size ?_))
      intro v5 w5 own5 grow5 _
      obtain ⟨a5, c5, rfl⟩ := owns_shape own5
      have HO5 : Hid (w5.ownsRow W1.heap.size 5 1 (.slice a5 (64 * (k + 1)) c5) (64 * (k + 1)) (u8s ((byL dt).take (64 * (k + 1)))) ∧ Below W1.heap.size W1 w5) := by
        refine ⟨?_, HO4.out.2.grown grow5 HO4.out.2.size (fun g hg => (HO4.out.1.lt g hg).1)⟩
        rw [HST7.out, u8s_append]
        exact own5
      clear own5 grow5 HO4 HN k3
      go_wp2
      go_roundw
      case rel => exact ⟨k + 1, by omega, by go_num, a5, c5, rfl, HO5⟩
      case measure => simp [intOf]; omega
    · obtain rfl : k = m := by omega
      have k2 := (HS.out.2.block _ l1).trans HK1.out
      clear x0 x1 x2
      obtain ⟨x0, x1, x2⟩ := three_ofI k2
      have hcap := owns_capZ HS.out.1
      have hcv : (convert 22 9 (.slice a (64 * k) c)).run Tryz.prog wr = .ok (.string dt) wr := by
        have h := HS.out.1
        rw [List.take_of_length_le (by rw [byL_len, HDT.out]; exact Nat.le_refl _)] at h
        obtain ⟨a', c', e, hR⟩ := owns_row h
        injection e with e1 e2 e3
        subst e1; subst e3
        have := conv_str c hR.read (byL_byt dt)
        rw [str_by] at this
        exact this
      have hds2 : ((dt.size : Nat) : Int).toNat = 64 * k := by have := HDT.out; omega
      have hds3 : ((dt.size : Nat) : Int) ≤ (c : Int) := by have := HDT.out; omega
      have HF := Lib.hid hbw
      clear hbw HS k2
      go_wp2
      go_ret
      exact ⟨rfl, HF.out⟩
end Go.Proofs.YtonpdbajoidigaaGreatDoor

/-
  FnSpace: the root of a formatted disk.
-/
namespace Go.Proofs.YtonpdbajoidigaaGreatDoor
open Go.RowKit
set_option linter.unusedSimpArgs false
set_option linter.unusedVariables false

theorem numI_snoc (l : List Int) (x : Int) : numI (l ++ [x]) = numI l * 256 + x := by simp [numI]
theorem numI_beB (n : Nat) : ∀ v : Int, 0 ≤ v → v < 256 ^ n → numI (beB v n) = v := by
  induction n with
  | zero => intro v h0 h1; simp at h1; simp [beB, numI]; omega
  | succ n ih =>
    intro v h0 h1
    have h2 : v / 256 < 256 ^ n := Int.ediv_lt_of_lt_mul (by omega) (by rw [Int.pow_succ] at h1; exact h1)
    rw [beB, numI_snoc, ih (v / 256) (by omega) h2]
    omega
theorem hdrL_take (s p q : Int) : (hdrL s p q).take 8 = beB s 8 := by
  unfold hdrL; rw [List.take_append_of_le_length (by rw [beB_len]; omega)]; exact List.take_of_length_le (by rw [beB_len]; omega)
theorem hdrL_drop8 (s p q : Int) : (hdrL s p q).drop 8 = beB p 2 ++ (beB q 2 ++ (List.replicate 44 0 ++ beB s 8)) := by
  unfold hdrL; rw [List.drop_left' (beB_len 8 s)]
theorem hdrL_p (s p q : Int) : ((hdrL s p q).drop 8).take 2 = beB p 2 := by
  rw [hdrL_drop8, List.take_left' (beB_len 2 p)]
theorem hdrL_drop10 (s p q : Int) : (hdrL s p q).drop 10 = beB q 2 ++ (List.replicate 44 0 ++ beB s 8) := by
  rw [show 10 = 8 + 2 from rfl, ← List.drop_drop, hdrL_drop8, List.drop_left' (beB_len 2 p)]
theorem hdrL_q (s p q : Int) : ((hdrL s p q).drop 10).take 2 = beB q 2 := by
  rw [hdrL_drop10, List.take_left' (beB_len 2 q)]
theorem hdrB_parts {s p q : Int} (h : hdrB s p q = true) : (1 ≤ s ∧ s ≤ 1099511627776) ∧ (0 ≤ p ∧ p ≤ 65535) ∧ 0 ≤ q ∧ q ≤ 65535 := by
  simp [hdrB, partB] at h; omega
theorem beB_val {v : Int} (n : Nat) (h0 : 0 ≤ v) (h1 : v < 256 ^ n) (h2 : v ≤ 4611686018427387904) : wrap64 (numI (beB v n)) = v := by
  rw [numI_beB n v h0 h1]; unfold wrap64; omega
theorem hS_hdr {s p q : Int} (h : hdrB s p q = true) : hS (hdrL s p q) = s := by
  have := hdrB_parts h
  unfold hS; rw [hdrL_take]; exact beB_val 8 (by omega) (by simp; omega) (by omega)
theorem hP_hdr {s p q : Int} (h : hdrB s p q = true) : hP (hdrL s p q) = p := by
  have := hdrB_parts h
  unfold hP; rw [hdrL_p]; exact beB_val 2 (by omega) (by simp; omega) (by omega)
theorem hQ_hdr {s p q : Int} (h : hdrB s p q = true) : hQ (hdrL s p q) = q := by
  have := hdrB_parts h
  unfold hQ; rw [hdrL_q]; exact beB_val 2 (by omega) (by simp; omega) (by omega)
theorem decV_hdr {s p q : Int} (h : hdrB s p q = true) : decV (hdrL s p q) = #[.bool true, .int .i64 s, .int .i64 p, .int .i64 q] := by
  have hd : decB (hdrL s p q) = true := by
    rw [decB_good (by rw [hS_hdr h, hP_hdr h, hQ_hdr h]; exact h) (hdrL_len _ _ _), hS_hdr h, hP_hdr h, hQ_hdr h]; simp
  rw [decV_yes hd, hS_hdr h, hP_hdr h, hQ_hdr h]
theorem dec_zero : decV (List.replicate 64 0) = #[.bool false, .int .i64 0, .int .i64 0, .int .i64 0] := decV_no (decB_bad (by
  have : hS (List.replicate 64 0) = 0 := by kernel_rfl
  rw [this]
  simp [hdrB]))
set_option maxRecDepth 100000 in
theorem isHeader_yes (S b : Int) (w : World) :
    Calls Tryz.prog 63 #[.agg #[.int .i64 1, .int .i64 S, .int .i64 b], .agg #[.int .i64 S, .int .i64 b], .int .i64 1] w fun e w' => e = .returned (.bool true) ∧ Below w.heap.size w w' := by
  have HB : Hid (∀ o o', Below w.heap.size w ((w.alloc o).alloc o')) := fun o o' => ((Below.refl _ _).alloc (Nat.le_refl _) _).alloc (by simp) _
  go_enter Tryz.func63, Tryz.ntmps63
  go_wp2
  go_ret
  exact ⟨rfl, HB.out _ _⟩
set_option maxRecDepth 100000 in
set_option maxHeartbeats 2000000 in
theorem findRoot_fmt (B C nb M : Nat) (rd : Int → List Int) (S : Nat) (b : Int) (T : Nat) (w : World) (hD : DS B w C nb M 256 rd) (hnb : nb ≤ 4096) (hv : vG (S : Int) b = true) (hT : nblk (2 * ((S : Int) * b)) = (T : Int)) (hT3 : T ≤ 33) (hr0 : rd 0 = List.replicate 64 0) (hr1 : rd (1 + (T : Int)) = hdrL 1 S b) (hnT : 1 + (T : Int) < (nb : Int)) :
    Calls Tryz.prog 38 #[.pointer (some ⟨C, 0, none⟩), .agg #[.int .i64 (S : Int), .int .i64 b]] w fun e w' => e = .returned (.tuple #[.int .i64 1, .bool true]) ∧ Below w.heap.size w w' := by
  obtain ⟨ib, hib, hzb, _, _⟩ := info_parts info74z
  have hzv : ∀ V, (zeroValue 74).run Tryz.prog V = .ok (.agg z64.toArray) V := fun V => by simp [zeroValue, typeInfo, hib, hzb]
  obtain ⟨W1, hW1⟩ : ∃ W1, w.alloc (.cells #[.int .i64 (S : Int), .int .i64 b] 25) = W1 := ⟨_, rfl⟩
  have hb1 : Below w.heap.size w W1 := by rw [← hW1]; exact (Below.refl _ _).alloc (Nat.le_refl _) _
  have k1 : W1.heap[w.heap.size]? = some (.cells #[.int .i64 (S : Int), .int .i64 b] 25 (0, 0)) := by rw [← hW1]; exact heap_alloc_new w _
  have l1 : w.heap.size < W1.heap.size := (Array.getElem?_eq_some_iff.1 k1).1
  have HY : Hid (∀ V, Calls Tryz.prog 13 #[.agg #[.int .i64 (S : Int), .int .i64 b]] V fun e w' => (∃ x0 x2 x3 x4, e = .returned (.agg #[.int .i64 x0, .int .i64 (T : Int), .int .i64 x2, .int .i64 x3, .int .i64 x4])) ∧ Below V.heap.size V w') := fun V => by
    have := layout_impl (S : Int) b V
    unfold layA at this
    rw [hv, if_pos rfl, hT] at this
    exact this.mono fun e w' ⟨h1, h2⟩ => ⟨⟨_, _, _, _, h1⟩, h2⟩
  have HRS : Hid (∀ (k : Nat) x0 x2 x3 x4 V, k < 2 → Calls Tryz.prog 16 #[.int .i64 (k : Int), .agg #[.int .i64 x0, .int .i64 (T : Int), .int .i64 x2, .int .i64 x3, .int .i64 x4]] V fun e w' => e = .returned (.int .i64 (rsN k T)) ∧ Below V.heap.size V w') := fun k x0 x2 x3 x4 V hk => regionStart_gen k x0 T x2 x3 x4 V (by omega) (by omega) (by omega) (by omega)
  have HBK : Hid (∀ k : Nat, k < 2 → ∃ X gd q s' b', X.length = 64 ∧ Byt X ∧ decV X = #[.bool gd, .int .i64 q, .int .i64 s', .int .i64 b'] ∧ (∀ V, Below w.heap.size w V → Calls Tryz.prog 61 #[.pointer (some ⟨C, 0, none⟩), .int .i64 (rsN k T)] V fun e w' => e = .returned (.agg (u8s X).toArray) ∧ Below V.heap.size V w') ∧ ((k = 0 ∧ gd = false) ∨ (k = 1 ∧ gd = true ∧ q = 1 ∧ s' = (S : Int) ∧ b' = b))) := fun k hk => by
    rcases (show k = 0 ∨ k = 1 by omega) with rfl | rfl
    · refine ⟨_, _, _, _, _, by simp, ?_, dec_zero, fun V hV => ?_, .inl ⟨rfl, rfl⟩⟩
      · intro x hx; have := List.eq_of_mem_replicate hx; omega
      · have := dread_any B C nb M 256 rd 0 V (hD.kd (S := fun _ => False) hV) (by omega) hnb (by omega) (by omega)
        rw [hr0] at this
        exact this
    · refine ⟨_, _, _, _, _, hdrL_len _ _ _, ?_, decV_hdr (hdr_ok hv), fun V hV => ?_, .inr ⟨rfl, rfl, rfl, rfl, rfl⟩⟩
      · exact hdrL_byt _ _ _
      · have := dread_any B C nb M 256 rd (1 + (T : Int)) V (hD.kd (S := fun _ => False) hV) (by omega) hnb (by omega) hnT
        rw [hr1] at this
        exact this
  have HB1 := Lib.hid (And.intro hb1 k1)
  clear hD hv hT hr0 hr1 hb1 k1 hib hzb
  go_enter Tryz.func38, Tryz.ntmps38
  go_wp2
  go_loopw [6, 10] (fun r i wr => ∃ k : Nat, k ≤ 2 ∧ i = .int .i64 k ∧ r = .int .i64 (if k = 2 then 1 else 0) ∧ Hid (Below W1.heap.size W1 wr)) (fun _ i _ => 2 - (intOf i).toNat)
  case atStart => exact ⟨0, by omega, rfl, rfl, Below.refl _ _⟩
  case round =>
    obtain ⟨k, hk, rfl, rfl, HS⟩ := hrel
    by_cases hlt : k < 2
    · have hlt' : (k : Int) < 2 := by omega
      have h0' : (0 : Int) ≤ (k : Int) := by omega
      have hk2 : (if k = 2 then (1 : Int) else 0) = 0 := if_neg (by omega)
      rw [hk2]
      obtain ⟨X, gd, q, s', b', hXL, hXB, hXD, hXR, hXC⟩ := HBK.out k hlt
      obtain ⟨⟨x0, x1⟩, _⟩ := cells2g ((HS.out.block _ l1).trans HB1.out.2)
      have lw : w.heap.size < wr.heap.size := by have := HS.out.size; omega
      have hXs : (u8s X).toArray.size = 64 := by rw [List.size_toArray, u8s_len, hXL]
      have h1X : (u8s X).toArray.all (·.oneCell') = true := by
        rw [Array.all_eq_true_iff_forall_mem]
        intro x hx
        exact many_u8 _ x (by simpa using hx)
      have HX := Lib.hid (And.intro hXL (And.intro hXB (And.intro hXD (And.intro hXR hXC))))
      clear hXL hXB hXD hXR hXC hk2
      go_wp2_with fail
      refine (HY.out _).mono ?_
      rintro e w2 ⟨⟨y0, y2, y3, y4, rfl⟩, hb2⟩
      have HB2 := Lib.hid hb2
      clear hb2
      go_wp2_with fail
      refine (HRS.out k y0 y2 y3 y4 w2 hlt).mono ?_
      rintro e w3 ⟨rfl, hb3⟩
      have hb3' : Below wr.heap.size wr w3 := HB2.out.trans (hb3.mono HB2.out.size)
      have hw3 : Below w.heap.size w w3 := (HB1.out.1.trans (HS.out.mono HB1.out.1.size)).trans (hb3'.mono (by omega))
      have HB3 := Lib.hid (And.intro hb3' hw3)
      clear hb3 hb3' hw3 HB2
      go_wp2_with fail
      refine (HX.out.2.2.2.1 w3 HB3.out.2).mono ?_
      rintro e w4 ⟨rfl, hb4⟩
      obtain ⟨W5, hW5⟩ : ∃ W5, w4.alloc (.cells z64.toArray 74) = W5 := ⟨_, rfl⟩
      have hb5 : Below w4.heap.size w4 W5 := by rw [← hW5]; exact (Below.refl _ _).alloc (Nat.le_refl _) _
      have k5 : W5.heap[w4.heap.size]? = some (.cells z64.toArray 74 (0, 0)) := by rw [← hW5]; exact heap_alloc_new w4 _
      obtain ⟨W6, hW6⟩ : ∃ W6, W5.setRow w4.heap.size (u8s X).toArray = W6 := ⟨_, rfl⟩
      have k6 : W6.heap[w4.heap.size]? = some (.cells (u8s X).toArray 74 (0, 0)) := by rw [← hW6]; exact setRow_heap W5 w4.heap.size _ _ 74 _ k5
      have hb4' : Below wr.heap.size wr w4 := HB3.out.1.trans (hb4.mono HB3.out.1.size)
      have hb6 : Below wr.heap.size wr W6 := by rw [← hW6]; exact below_setRow (hb4'.trans (hb5.mono hb4'.size)) hb4'.size _
      have hrow6 : IRow .u8 W6 (some ⟨w4.heap.size, 0, none⟩) 64 X := ⟨HX.out.1, .inr ⟨_, 0, rfl, fun j hj => by
        rw [Nat.zero_add]
        have hu : (u8s X)[j]? = some (.int .u8 (X[j]?.getD 0)) := by
          have : j < X.length := by rw [HX.out.1]; exact hj
          simp [u8s, this]
        have := range_of_heap k6 j _ hu
        simpa using this⟩⟩
      have HDH : Hid (Calls Tryz.prog 62 #[.slice (some ⟨w4.heap.size, 0, none⟩) 64 64] W6 fun e w' => e = .returned (.agg #[.bool gd, .int .i64 q, .int .i64 s', .int .i64 b']) ∧ Below W6.heap.size W6 w') := by
        have := decodeHeader_impl (some ⟨w4.heap.size, 0, none⟩) 64 64 X W6 hrow6 HX.out.2.1 (by omega) (by omega)
        rw [HX.out.2.2.1] at this
        exact this
      have HB6 := Lib.hid hb6
      have HXC := Lib.hid HX.out.2.2.2.2
      clear hb4 hb5 hb4' hb6 hrow6 k6 HX HB3
      go_wp2_with (refine wpList_store_row rfl 74 _ _ rfl w4.heap.size (u8s X).toArray rfl rfl 74 _ k5 (by rw [hXs]; exact info74b) (by rw [hXs]; rfl) h1X ?_; rw [hW6])
      refine HDH.out.mono ?_
      rintro e w7 ⟨rfl, hb7⟩
      have hb7' : Below wr.heap.size wr w7 := HB6.out.trans (hb7.mono HB6.out.size)
      obtain ⟨W8, hW8⟩ : ∃ W8, w7.alloc (.cells #[.bool false, .int .i64 0, .int .i64 0, .int .i64 0] 137) = W8 := ⟨_, rfl⟩
      have k8 : W8.heap[w7.heap.size]? = some (.cells #[.bool false, .int .i64 0, .int .i64 0, .int .i64 0] 137 (0, 0)) := by rw [← hW8]; exact heap_alloc_new w7 _
      have hb8 : Below wr.heap.size wr W8 := by rw [← hW8]; exact hb7'.alloc hb7'.size _
      obtain ⟨_, f80, f81, f82, f83⟩ := four_ofF k8
      obtain ⟨W9, hW9⟩ : ∃ W9, (((W8.setCell ⟨w7.heap.size, 0, none⟩ (.bool gd)).setCell ⟨w7.heap.size, 1, none⟩ (.int .i64 q)).setCell ⟨w7.heap.size, 2, none⟩ (.int .i64 s')).setCell ⟨w7.heap.size, 3, none⟩ (.int .i64 b') = W9 := ⟨_, rfl⟩
      have k9 : W9.heap[w7.heap.size]? = some (.cells #[.bool gd, .int .i64 q, .int .i64 s', .int .i64 b'] 137 (0, 0)) := by
        rw [← hW9]
        simp [World.setCell, Array.getElem?_modify, k8]
      have hb9 : Below wr.heap.size wr W9 := by
        have hs7 := hb7'.size
        rw [← hW9]
        exact (((hb8.setCell (p := ⟨w7.heap.size, 0, none⟩) hs7 _).setCell (p := ⟨w7.heap.size, 1, none⟩) hs7 _).setCell (p := ⟨w7.heap.size, 2, none⟩) hs7 _).setCell (p := ⟨w7.heap.size, 3, none⟩) hs7 _
      obtain ⟨⟨z0, z1, z2, z3⟩, _⟩ := four_ofF k9
      obtain ⟨⟨u0, u1⟩, _⟩ := cells2g ((hb9.block _ lw).trans ((HS.out.block _ l1).trans HB1.out.2))
      have l8 : w7.heap.size < W8.heap.size := (Array.getElem?_eq_some_iff.1 k8).1
      have l9 : w7.heap.size < W9.heap.size := (Array.getElem?_eq_some_iff.1 k9).1
      have HB9 : Hid (Below W1.heap.size W1 W9) := HS.out.trans (hb9.mono HS.out.size)
      obtain ⟨y80, y81, y82, y83⟩ := (four_ofF k8).1
      clear hb7 hb7' hb8 hb9 k8 k9 HB6 HDH HS x0 x1
      rcases HXC.out with ⟨rfl, rfl⟩ | ⟨rfl, rfl, rfl, rfl, rfl⟩
      · clear HXC
        go_wp2
        go_roundw
        case rel => exact ⟨1, by omega, by go_num, rfl, HB9⟩
        case measure => simp [intOf]
      · clear HXC
        have HIH := Lib.hid (isHeader_yes (S : Int) b' W9)
        go_wp2_with fail
        refine HIH.out.mono ?_
        rintro e w10 ⟨rfl, hb10⟩
        have HB10 : Hid (Below W1.heap.size W1 w10) := HB9.out.trans (hb10.mono HB9.out.size)
        have v1 : w10.cell? ⟨w7.heap.size, 1, none⟩ = some (.int .i64 1) := (hb10.cell l9).trans z1
        clear hb10 HIH HB9
        go_wp2
        go_roundw
        case rel => exact ⟨2, by omega, by go_num, rfl, HB10⟩
        case measure => simp [intOf]
    · obtain rfl : k = 2 := by omega
      have HF : Hid (Below w.heap.size w wr) := HB1.out.1.trans (HS.out.mono HB1.out.1.size)
      rw [if_pos rfl]
      clear HS
      go_wp2
      refine bodyPost_ret (results_tmp2 rfl _ _ _) rfl ?_
      exact ⟨rfl, HF.out⟩
end Go.Proofs.YtonpdbajoidigaaGreatDoor
