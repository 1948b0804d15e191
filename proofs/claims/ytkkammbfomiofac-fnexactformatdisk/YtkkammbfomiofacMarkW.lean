/-
  Lists of writes: markWriteS, heldWriteS.
-/
import Derived.Test.YtkkammbfomiofacWrites
namespace Go.Proofs.Ytkkammbfomiofac
open Go.RowKit

/-- At pa lie m writes: ws, in a block of tag 1; the data of write i in a block of tag 2 + i. All may be written. -/
def POwn (T : Nat → Nat) (R : Nat → Prop) (w : World) (pa : Option Addr) (m : Nat) (ws : List WV) : Prop :=
  ws.length = m ∧ (m = 0 ∨ ∃ g off, pa = some ⟨g, off, none⟩ ∧ (T g = 1 ∧ R g) ∧ ∀ i, i < m → (w.cell? ⟨g, off + i * 2, none⟩ = some (.int .i64 (wBlk ws i)) ∧ w.frozen? ⟨g, off + i * 2, none⟩ = false) ∧ w.cell? ⟨g, off + i * 2 + 1, none⟩ = some (.slice (wA ws i) (wN ws i) (wC ws i))) ∧
  ∀ i, i < m → Row .u8 (fun g => T g = 2 + i ∧ R g) w (wA ws i) (wN ws i) (wBs ws i) ∧ wN ws i ≤ 2097152

theorem POwn.read {T : Nat → Nat} {R : Nat → Prop} {w : World} {pa : Option Addr} {m : Nat} {ws : List WV} (h : POwn T R w pa m ws) : PRead w pa m ws :=
  ⟨h.1, h.2.1.imp id fun ⟨g, off, e, _, hc⟩ => ⟨g, off, e, fun i hi => ⟨(hc i hi).1.1, (hc i hi).2⟩⟩, fun i hi => ⟨(h.2.2 i hi).1.read, (h.2.2 i hi).2⟩⟩

theorem POwn.kept {T : Nat → Nat} {R : Nat → Prop} {G : Nat → Prop} {w w' : World} {pa : Option Addr} {m : Nat} {ws : List WV} (h : POwn T R w pa m ws) (hk : Kept G w w') (hd : ∀ g, 1 ≤ T g → R g → ¬ G g) : POwn T R w' pa m ws := by
  refine ⟨h.1, ?_, fun i hi => ⟨(h.2.2 i hi).1.kept hk (fun j hj => hd j (by omega) hj.2), (h.2.2 i hi).2⟩⟩
  by_cases hm : m = 0
  · exact .inl hm
  rcases h.2.1 with h0 | ⟨g, off, e, hg, hc⟩
  · exact .inl h0
  · refine .inr ⟨g, off, e, hg, fun i hi => ?_⟩
    have hb := hk.block g (World.block_lt_of_cell? w _ (hc i hi).2) (hd g (by omega) hg.2)
    rw [World.cell?_of_block (a := ⟨g, off + i * 2, none⟩) hb, World.frozen?_of_block (a := ⟨g, off + i * 2, none⟩) hb, World.cell?_of_block (a := ⟨g, off + i * 2 + 1, none⟩) hb]
    exact hc i hi
theorem POwn.below {T : Nat → Nat} {R : Nat → Prop} {w w' : World} {pa : Option Addr} {m : Nat} {ws : List WV} (h : POwn T R w pa m ws) (hb : Below w.heap.size w w') : POwn T R w' pa m ws :=
  h.kept (Kept.of_below hb fun _ => False) fun _ _ _ => id

/-- The number with which the marks of write i begin. -/
def mpos (k : Int) (ws : List WV) : Nat → Int
  | 0 => k
  | i + 1 => mpos k ws i + 1 + wN ws i
theorem mpos_bound (k : Int) (ws : List WV) (m : Nat) (h : ∀ i, i < m → wN ws i ≤ 2097152) : ∀ i, i ≤ m → k ≤ mpos k ws i ∧ mpos k ws i ≤ k + (i : Int) * 2097153
  | 0, _ => by simp [mpos]
  | i + 1, hi => by
    have ih := mpos_bound k ws m h i (by omega)
    have := h i (by omega)
    simp only [mpos]
    omega
theorem mpos_congr (k : Int) (ws ws' : List WV) (m : Nat) (h : ∀ i, i < m → wN ws i = wN ws' i) : ∀ i, i ≤ m → mpos k ws i = mpos k ws' i
  | 0, _ => rfl
  | i + 1, hi => by simp only [mpos, mpos_congr k ws ws' m h i (by omega), h i (by omega)]

/-- All is marked from k on. -/
def Marked (k : Int) (ws : List WV) : Prop := ∀ i, i < ws.length → wBlk ws i = mpos k ws i ∧ wBs ws i = marks (mpos k ws i + 1) (wN ws i)

def mW (k : Int) (ws : List WV) : List WV := (List.range ws.length).map fun i => ⟨mpos k ws i, wA ws i, wN ws i, wC ws i, marks (mpos k ws i + 1) (wN ws i)⟩
theorem mW_len (k : Int) (ws : List WV) : (mW k ws).length = ws.length := by simp [mW]
theorem mW_at (k : Int) (ws : List WV) (i : Nat) (h : i < ws.length) : wBlk (mW k ws) i = mpos k ws i ∧ wA (mW k ws) i = wA ws i ∧ wN (mW k ws) i = wN ws i ∧ wC (mW k ws) i = wC ws i ∧ wBs (mW k ws) i = marks (mpos k ws i + 1) (wN ws i) := by
  have e : (mW k ws)[i]? = some ⟨mpos k ws i, wA ws i, wN ws i, wC ws i, marks (mpos k ws i + 1) (wN ws i)⟩ := by simp [mW, h]
  simp [wBlk, wA, wN, wC, wBs, e]
theorem mW_pos (k : Int) (ws : List WV) (i : Nat) (h : i ≤ ws.length) : mpos k (mW k ws) i = mpos k ws i :=
  mpos_congr k _ _ ws.length (fun i hi => (mW_at k ws i hi).2.2.1) i h
theorem mW_marked (k : Int) (ws : List WV) : Marked k (mW k ws) := by
  intro i hi
  rw [mW_len] at hi
  obtain ⟨e1, e2, e3, e4, e5⟩ := mW_at k ws i hi
  rw [e1, e5, e3, mW_pos k ws i (by omega)]
  exact ⟨rfl, rfl⟩

/-- The list in mid-way: the first j are marked. -/
structure Mid (T : Nat → Nat) (R : Nat → Prop) (k : Int) (w0 w : World) (g off m : Nat) (ws : List WV) (j : Nat) : Prop where
  cells : ∀ i, i < m → (w.cell? ⟨g, off + i * 2, none⟩ = some (.int .i64 (if i < j then mpos k ws i else wBlk ws i)) ∧ w.frozen? ⟨g, off + i * 2, none⟩ = false) ∧ w.cell? ⟨g, off + i * 2 + 1, none⟩ = some (.slice (wA ws i) (wN ws i) (wC ws i))
  rows : ∀ i, i < m → Row .u8 (fun g => T g = 2 + i ∧ R g) w (wA ws i) (wN ws i) (if i < j then marks (mpos k ws i + 1) (wN ws i) else wBs ws i)
  kept : Kept (fun g => 1 ≤ T g ∧ R g) w0 w

theorem Mid.done {T : Nat → Nat} {R : Nat → Prop} {k : Int} {w0 w : World} {g off m : Nat} {ws : List WV} (h : Mid T R k w0 w g off m ws m) (hg : T g = 1 ∧ R g) (hl : ws.length = m) (hs : ∀ i, i < m → wN ws i ≤ 2097152) : POwn T R w (some ⟨g, off, none⟩) m (mW k ws) := by
  refine ⟨by rw [mW_len]; exact hl, .inr ⟨g, off, rfl, hg, fun i hi => ?_⟩, fun i hi => ?_⟩
  · obtain ⟨e1, e2, e3, e4, e5⟩ := mW_at k ws i (by omega)
    rw [e1, e2, e3, e4]
    have := h.cells i hi
    rw [if_pos hi] at this
    exact this
  · obtain ⟨e1, e2, e3, e4, e5⟩ := mW_at k ws i (by omega)
    rw [e2, e3, e5]
    have := h.rows i hi
    rw [if_pos hi] at this
    exact ⟨this, hs i hi⟩

/-- One round: the block's number, then the bytes. -/
theorem Mid.step {T : Nat → Nat} {R : Nat → Prop} {k : Int} {w0 w w' : World} {g off m : Nat} {ws : List WV} {j : Nat} (h : Mid T R k w0 w g off m ws j) (hg : T g = 1 ∧ R g) (hj : j < m)
    (hr : Row .u8 (fun g => T g = 2 + j ∧ R g) w' (wA ws j) (wN ws j) (marks (mpos k ws j + 1) (wN ws j))) (hk : Kept (fun g => T g = 2 + j ∧ R g) (w.setCell ⟨g, off + j * 2, none⟩ (.int .i64 (mpos k ws j))) w') :
    Mid T R k w0 w' g off m ws (j + 1) := by
  have hs : Kept (fun x => x = g) w (w.setCell ⟨g, off + j * 2, none⟩ (.int .i64 (mpos k ws j))) := Kept.setCell _ _ _ _ rfl
  refine ⟨fun i hi => ?_, fun i hi => ?_, ?_⟩
  · have hc := h.cells i hi
    have hlt : g < (w.setCell ⟨g, off + j * 2, none⟩ (.int .i64 (mpos k ws j))).heap.size := Nat.lt_of_lt_of_le (World.block_lt_of_cell? w _ hc.2) hs.size
    have hb := hk.block g hlt (fun x => by omega)
    rw [World.cell?_of_block (a := ⟨g, off + i * 2, none⟩) hb, World.frozen?_of_block (a := ⟨g, off + i * 2, none⟩) hb, World.cell?_of_block (a := ⟨g, off + i * 2 + 1, none⟩) hb, World.frozen?_setCell]
    rw [World.cell?_setCell_other (a := ⟨g, off + j * 2, none⟩) (b := ⟨g, off + i * 2 + 1, none⟩) (h := by intro e; injection e with e1 e2 e3; omega)]
    refine ⟨⟨?_, hc.1.2⟩, hc.2⟩
    by_cases e : i = j
    · subst e
      rw [if_pos (by omega)]
      exact World.cell?_setCell_same _ _ _ hc.1.1
    · rw [World.cell?_setCell_other (a := ⟨g, off + j * 2, none⟩) (b := ⟨g, off + i * 2, none⟩) (h := by intro e; injection e with e1 e2 e3; omega), hc.1.1]
      by_cases h' : i < j
      · rw [if_pos h', if_pos (by omega)]
      · rw [if_neg h', if_neg (by omega)]
  · by_cases e : i = j
    · subst e
      rw [if_pos (by omega)]
      exact hr
    · have := ((h.rows i hi).kept hs (fun x hx e => by subst e; omega)).kept hk (fun x hx hx' => by omega)
      by_cases h' : i < j
      · rw [if_pos h'] at this; rw [if_pos (by omega)]; exact this
      · rw [if_neg h'] at this; rw [if_neg (by omega)]; exact this
  · exact (h.kept.trans (hs.mono fun x hx => by subst hx; exact ⟨by omega, hg.2⟩)).trans (hk.mono fun x hx => ⟨by omega, hx.2⟩)

set_option maxHeartbeats 1000000 in
theorem markWriteS_any (a : Option Addr) (n ca : Nat) (k : Int) (T : Nat → Nat) (R : Nat → Prop) (ws : List WV) (w : World) (ha : POwn T R w a n ws) (hn : n ≤ 2097152) (h0 : 0 ≤ k) (h1 : k ≤ 4194304) :
    Calls Try.prog 66 #[.slice a n ca, .int .i64 k] w fun e w' => ∃ ws', e = .returned (.int .i64 (mpos k ws' n)) ∧ Marked k ws' ∧ POwn T R w' a n ws' ∧ Kept (fun g => 1 ≤ T g ∧ R g) w w' := by
  obtain ⟨hx, ha, hd⟩ := ha
  rcases ha with h0' | ⟨g, off, rfl, hg, hc⟩
  · subst h0'
    have he : ws = [] := List.length_eq_zero_iff.1 hx
    subst he
    clear hd
    go_enter Try.func66, Try.ntmps66
    go_wp2
    refine wp_loop_rounds 1 ?_
    rw [rounds_succ]
    go_wp2
    go_ret
    exact ⟨[], rfl, fun i hi => absurd hi (by simp), ⟨rfl, .inl rfl, fun i hi => absurd hi (by simp)⟩, Kept.refl _ _⟩
  · have HX : Hid (ws.length = n) := hx
    have HG : Hid (T g = 1 ∧ R g) := hg
    have HD : Hid (∀ i, i < n → wN ws i ≤ 2097152) := fun i hi => (hd i hi).2
    have M0 : Mid T R k w w g off n ws 0 := ⟨by simpa using hc, fun i hi => by simpa using (hd i hi).1, Kept.refl _ _⟩
    clear hx hg hc hd
    go_enter Try.func66, Try.ntmps66
    go_wp2
    go_loopw [1, 5] (fun kk i wr => ∃ j : Nat, j ≤ n ∧ kk = .int .i64 (mpos k ws j) ∧ i = .int .i64 j ∧ Mid T R k w wr g off n ws j) (fun _ i _ => n - (intOf i).toNat)
    case atStart => exact ⟨0, Nat.zero_le _, rfl, rfl, M0⟩
    case round =>
      obtain ⟨j, hj, rfl, rfl, hM⟩ := hrel
      by_cases hlt : j < n
      · have b1 := mpos_bound k ws n HD.out j hj
        have b3 := HD.out j hlt
        have cc := hM.cells j hlt
        have c1 := cc.1.1
        have c2 := cc.1.2
        have c3 := cc.2
        rw [if_neg (Nat.lt_irrefl _)] at c1
        have hrow := (hM.rows j hlt).kept (Kept.setCell wr ⟨g, off + j * 2, none⟩ (.int .i64 (mpos k ws j)) (fun x => x = g) rfl) (fun x hx e => by subst e; have := HG.out; omega)
        rw [if_neg (Nat.lt_irrefl _)] at hrow
        obtain ⟨b4, b5⟩ := b1
        have b6 : mpos k ws j + 1 ≤ 35184372088832 := by omega
        have b7 : 0 ≤ mpos k ws j + 1 := by omega
        have c4 : (wr.setCell ⟨g, off + j * 2, none⟩ (.int .i64 (mpos k ws j))).cell? ⟨g, off + j * 2 + 1, none⟩ = some (.slice (wA ws j) (wN ws j) (wC ws j)) := by
          rw [World.cell?_setCell_other (h := by intro e; injection e with e1 e2 e3; omega)]; exact c3
        clear cc M0
        go_wp2_with (go_at_call 16; refine (markByteS_any _ _ _ _ _ _ _ hrow b3 b7 b6).mono ?_; rintro e w1 ⟨rfl, hr1, hk1⟩)
        have hM' := hM.step HG.out hlt hr1 hk1
        clear hr1 hk1 hM hrow
        go_roundw
        case rel => exact ⟨j + 1, by omega, rfl, by go_num, hM'⟩
        case measure => simp [intOf]; omega
      · have hjn : j = n := by omega
        subst hjn
        have hfin := hM.done HG.out HX.out HD.out
        have HP : Hid (mpos k (mW k ws) j = mpos k ws j) := mW_pos k ws j (by rw [HX.out]; exact Nat.le_refl _)
        have hk' := hM.kept
        clear hM M0
        go_wp2
        go_ret
        exact ⟨mW k ws, ret_int HP.out.symm, mW_marked k ws, hfin, hk'⟩

set_option maxHeartbeats 1000000 in
theorem heldWriteS_any (a : Option Addr) (n ca : Nat) (k : Int) (ws : List WV) (w : World) (ha : PRead w a n ws) (hmk : Marked k ws) (hn : n ≤ 2097152) (h0 : 0 ≤ k) (h1 : k ≤ 4194304) :
    Calls Try.prog 67 #[.slice a n ca, .int .i64 k] w fun e w' => e = .returned (.int .i64 (mpos k ws n)) ∧ w' = w := by
  obtain ⟨hx, ha, hd⟩ := ha
  rcases ha with h0' | ⟨g, off, rfl, hc⟩
  · subst h0'
    clear hd
    go_enter Try.func67, Try.ntmps67
    go_wp2
    refine wp_loop_rounds 1 ?_
    rw [rounds_succ]
    go_wp2
    go_ret
    exact ⟨ret_int rfl, rfl⟩
  · have HX : Hid (ws.length = n) := hx
    have HM : Hid (Marked k ws) := hmk
    clear hx hmk
    go_enter Try.func67, Try.ntmps67
    go_wp2
    go_loop [1, 5] (fun kk i => ∃ j : Nat, j ≤ n ∧ kk = .int .i64 (mpos k ws j) ∧ i = .int .i64 j) (fun _ i => n - (intOf i).toNat)
    case atStart => exact ⟨0, Nat.zero_le _, rfl, rfl⟩
    case round =>
      obtain ⟨j, hj, rfl, rfl⟩ := hrel
      by_cases hlt : j < n
      · have b1 := mpos_bound k ws n (fun i hi => (hd i hi).2) j hj
        obtain ⟨b4, b5⟩ := b1
        obtain ⟨e1, e2⟩ := HM.out j (by rw [HX.out]; exact hlt)
        obtain ⟨c1, c3⟩ := hc j hlt
        obtain ⟨hrow, b3⟩ := hd j hlt
        rw [e1] at c1
        rw [e2] at hrow
        have b6 : mpos k ws j + 1 ≤ 35184372088832 := by omega
        have b7 : 0 ≤ mpos k ws j + 1 := by omega
        have hne : (mpos k ws j != mpos k ws j) = false := by simp
        clear hc hd e1 e2
        go_wp2_with (go_at_call 17; refine (heldByteS_any _ _ _ _ _ hrow b3 b7 b6).mono ?_; rintro e w1 ⟨rfl, rfl⟩)
        go_round
        case rel => exact ⟨j + 1, by omega, rfl, by go_num⟩
        case measure => simp [intOf]; omega
      · have hjn : j = n := by omega
        subst hjn
        clear hc hd
        go_wp2
        go_ret
        exact ⟨ret_int rfl, rfl⟩

set_option maxHeartbeats 1000000 in
theorem eqDisk_any (a1 a2 p1 p2 : Option Addr) (n1 c1 n2 c2 m1 q1 m2 q2 : Nat) (xs ys : List Int) (us vs : List WV) (w : World)
    (hx : IRow .u8 w a1 n1 xs) (hy : IRow .u8 w a2 n2 ys) (hu : PRead w p1 m1 us) (hv : PRead w p2 m2 vs) (h1 : n1 ≤ 2097152) (h2 : n2 ≤ 2097152) (h3 : m1 ≤ 2097152) (h4 : m2 ≤ 2097152) :
    Calls Try.prog 28 #[.agg #[.slice a1 n1 c1, .slice p1 m1 q1], .agg #[.slice a2 n2 c2, .slice p2 m2 q2]] w fun e w' => e = .returned (.bool (decide (xs = ys ∧ wVal us = wVal vs))) ∧ Below w.heap.size w w' := by
  have hB : ∀ (o o' : Obj) (d : Nat), Below w.heap.size w (((w.alloc o).alloc o').drewN d) := fun o o' d => below_drewN (((Below.refl _ _).alloc (Nat.le_refl _) _).alloc (by simp) _) _
  have HB := hB
  cases he : decide (xs = ys)
  · have HF : Hid (decide (xs = ys ∧ wVal us = wVal vs) = false) := by show _ = false; simp only [decide_eq_false_iff_not] at he ⊢; exact fun x => he x.1
    clear hB hu hv
    go_enter Try.func28, Try.ntmps28
    go_wp2_with (go_at_call 15; refine (eqByteS_any _ _ _ _ _ _ xs ys _ ((hx.alloc _).alloc _) ((hy.alloc _).alloc _) h1 h2).mono ?_; rintro e w' ⟨rfl, d, rfl⟩; rw [he])
    go_ret
    exact ⟨ret_boolB HF.out.symm, HB _ _ _⟩
  · cases he2 : decide (wVal us = wVal vs)
    · have HF : Hid (decide (xs = ys ∧ wVal us = wVal vs) = false) := by show _ = false; simp only [decide_eq_false_iff_not] at he2 ⊢; exact fun x => he2 x.2
      have HU : ∀ (o o' : Obj) (d : Nat), PRead (((w.alloc o).alloc o').drewN d) p1 m1 us := fun o o' d => hu.below (HB o o' d)
      have HV : ∀ (o o' : Obj) (d : Nat), PRead (((w.alloc o).alloc o').drewN d) p2 m2 vs := fun o o' d => hv.below (HB o o' d)
      clear hB hu hv
      go_enter Try.func28, Try.ntmps28
      go_wp2_with (first | (go_at_call 15; refine (eqByteS_any _ _ _ _ _ _ xs ys _ ((hx.alloc _).alloc _) ((hy.alloc _).alloc _) h1 h2).mono ?_; rintro e w' ⟨rfl, d, rfl⟩; rw [he]) | (go_at_call 65; refine (eqWriteS_any _ _ _ _ _ _ us vs _ (HU _ _ _) (HV _ _ _) h3 h4).mono ?_; rintro e w' ⟨rfl, hb⟩; rw [he2]))
      go_ret
      exact ⟨ret_boolB HF.out.symm, (HB _ _ _).trans (Below.mono (by assumption) (by simp; omega))⟩
    · have HF : Hid (decide (xs = ys ∧ wVal us = wVal vs) = true) := by show _ = true; simp only [decide_eq_true_eq] at he he2 ⊢; exact ⟨he, he2⟩
      have HU : ∀ (o o' : Obj) (d : Nat), PRead (((w.alloc o).alloc o').drewN d) p1 m1 us := fun o o' d => hu.below (HB o o' d)
      have HV : ∀ (o o' : Obj) (d : Nat), PRead (((w.alloc o).alloc o').drewN d) p2 m2 vs := fun o o' d => hv.below (HB o o' d)
      clear hB hu hv
      go_enter Try.func28, Try.ntmps28
      go_wp2_with (first | (go_at_call 15; refine (eqByteS_any _ _ _ _ _ _ xs ys _ ((hx.alloc _).alloc _) ((hy.alloc _).alloc _) h1 h2).mono ?_; rintro e w' ⟨rfl, d, rfl⟩; rw [he]) | (go_at_call 65; refine (eqWriteS_any _ _ _ _ _ _ us vs _ (HU _ _ _) (HV _ _ _) h3 h4).mono ?_; rintro e w' ⟨rfl, hb⟩; rw [he2]))
      go_ret
      exact ⟨ret_boolB HF.out.symm, (HB _ _ _).trans (Below.mono (by assumption) (by simp; omega))⟩
end Go.Proofs.Ytkkammbfomiofac
