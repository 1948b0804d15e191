/-
  Writes, MarkW, DiskM, NewD, NewL, Sz, To, ToD, ToE.
-/
import Derived.Test.YtonpdbajoidigaaGreatDoorGb
import Derived.Deep.RegionWith
/-
  Lists of writes: eqWrite, eqWriteS.
-/
namespace Go.Proofs.YtonpdbajoidigaaGreatDoor
open Go.RowKit

theorem bcell {W w1 : World} (hb : Below W.heap.size W w1) : (∀ b o, b < W.heap.size → w1.cell? ⟨b, o, none⟩ = W.cell? ⟨b, o, none⟩) ∧ (∀ b o, b < W.heap.size → w1.frozen? ⟨b, o, none⟩ = W.frozen? ⟨b, o, none⟩) :=
  ⟨fun b o h => hb.cell (p := ⟨b, o, none⟩) h, fun b o h => hb.frozen (p := ⟨b, o, none⟩) h⟩

theorem IRow.alloc {k : IntKind} {w : World} {a : Option Addr} {n : Nat} {xs : List Int} (h : IRow k w a n xs) (o : Obj) : IRow k (w.alloc o) a n xs :=
  h.below ((Below.refl _ _).alloc (Nat.le_refl _) _)
theorem IRow.drew {k : IntKind} {w : World} {a : Option Addr} {n : Nat} {xs : List Int} (h : IRow k w a n xs) : IRow k w.drew a n xs := h
theorem IRow.drewN {k : IntKind} {w : World} {a : Option Addr} {n : Nat} {xs : List Int} (h : IRow k w a n xs) (d : Nat) : IRow k (w.drewN d) a n xs := h

/-- A write as it lies in memory: its block, its data's address, length and capacity, its bytes. -/
structure WV where
  blk : Int
  a : Option Addr
  n : Nat
  c : Nat
  bs : List Int
def wv0 : WV := ⟨0, none, 0, 0, []⟩
def wBlk (ws : List WV) (i : Nat) : Int := (ws[i]?.getD wv0).blk
def wA (ws : List WV) (i : Nat) : Option Addr := (ws[i]?.getD wv0).a
def wN (ws : List WV) (i : Nat) : Nat := (ws[i]?.getD wv0).n
def wC (ws : List WV) (i : Nat) : Nat := (ws[i]?.getD wv0).c
def wBs (ws : List WV) (i : Nat) : List Int := (ws[i]?.getD wv0).bs
/-- What the list of writes says. -/
def wVal (ws : List WV) : List (Int × List Int) := ws.map fun x => (x.blk, x.bs)

/-- At pa lie m writes: ws. -/
def PRead (w : World) (pa : Option Addr) (m : Nat) (ws : List WV) : Prop :=
  ws.length = m ∧ (m = 0 ∨ ∃ g off, pa = some ⟨g, off, none⟩ ∧ ∀ i, i < m → w.cell? ⟨g, off + i * 2, none⟩ = some (.int .i64 (wBlk ws i)) ∧ w.cell? ⟨g, off + i * 2 + 1, none⟩ = some (.slice (wA ws i) (wN ws i) (wC ws i))) ∧
  ∀ i, i < m → IRow .u8 w (wA ws i) (wN ws i) (wBs ws i) ∧ wN ws i ≤ 2097152

theorem PRead.below {w w' : World} {pa : Option Addr} {m : Nat} {ws : List WV} (h : PRead w pa m ws) (hb : Below w.heap.size w w') : PRead w' pa m ws := by
  refine ⟨h.1, ?_, fun i hi => ⟨(h.2.2 i hi).1.below hb, (h.2.2 i hi).2⟩⟩
  by_cases hm : m = 0
  · exact .inl hm
  rcases h.2.1 with h0 | ⟨g, off, e, hc⟩
  · exact .inl h0
  · refine .inr ⟨g, off, e, fun i hi => ?_⟩
    rw [hb.cell (World.block_lt_of_cell? w _ (hc i hi).1), hb.cell (World.block_lt_of_cell? w _ (hc i hi).2)]
    exact hc i hi

theorem wVal_take_succ {xs ys : List WV} {k : Nat} (h : k < xs.length) (h' : k < ys.length) (e : (wVal xs).take k = (wVal ys).take k) (e' : wBlk xs k = wBlk ys k ∧ wBs xs k = wBs ys k) : (wVal xs).take (k + 1) = (wVal ys).take (k + 1) := by
  have l1 : k < (wVal xs).length := by simpa [wVal] using h
  have l2 : k < (wVal ys).length := by simpa [wVal] using h'
  rw [List.take_succ_eq_append_getElem l1, List.take_succ_eq_append_getElem l2, e]
  simp only [wBlk, wBs, List.getElem?_eq_getElem h, List.getElem?_eq_getElem h', Option.getD_some] at e'
  simp [wVal, e'.1, e'.2]

theorem wVal_ne {xs ys : List WV} {k : Nat} (h : k < xs.length) (h' : k < ys.length) (e' : decide (wBlk xs k = wBlk ys k ∧ wBs xs k = wBs ys k) = false) : decide (wVal xs = wVal ys) = false := by
  simp only [decide_eq_false_iff_not] at e' ⊢
  intro e
  apply e'
  have l1 : k < (wVal xs).length := by simpa [wVal] using h
  have := congrArg (fun l => l[k]?) e
  simp only [wVal, List.getElem?_map, List.getElem?_eq_getElem h, List.getElem?_eq_getElem h', Option.map_some, Option.some.injEq, Prod.mk.injEq] at this
  simpa [wBlk, wBs, List.getElem?_eq_getElem h, List.getElem?_eq_getElem h'] using this

end Go.Proofs.YtonpdbajoidigaaGreatDoor

/-
  Lists of writes: markWriteS, heldWriteS.
-/
namespace Go.Proofs.YtonpdbajoidigaaGreatDoor
open Go.RowKit

/-- At pa lie m writes: ws, in a block of tag 1; the data of write i in a block of tag 2 + i. All may be written. -/
def POwn (T : Nat → Nat) (R : Nat → Prop) (w : World) (pa : Option Addr) (m : Nat) (ws : List WV) : Prop :=
  ws.length = m ∧ (m = 0 ∨ ∃ g off, pa = some ⟨g, off, none⟩ ∧ (T g = 1 ∧ R g) ∧ ∀ i, i < m → (w.cell? ⟨g, off + i * 2, none⟩ = some (.int .i64 (wBlk ws i)) ∧ w.frozen? ⟨g, off + i * 2, none⟩ = false) ∧ w.cell? ⟨g, off + i * 2 + 1, none⟩ = some (.slice (wA ws i) (wN ws i) (wC ws i))) ∧
  ∀ i, i < m → Row .u8 (fun g => T g = 2 + i ∧ R g) w (wA ws i) (wN ws i) (wBs ws i) ∧ wN ws i ≤ 2097152

theorem POwn.read {T : Nat → Nat} {R : Nat → Prop} {w : World} {pa : Option Addr} {m : Nat} {ws : List WV} (h : POwn T R w pa m ws) : PRead w pa m ws :=
  ⟨h.1, h.2.1.imp id fun ⟨g, off, e, _, hc⟩ => ⟨g, off, e, fun i hi => ⟨(hc i hi).1.1, (hc i hi).2⟩⟩, fun i hi => ⟨(h.2.2 i hi).1.read, (h.2.2 i hi).2⟩⟩

theorem POwn.kept {T : Nat → Nat} {R : Nat → Prop} {G : Nat → Prop} {w w' : World} {pa : Option Addr} {m : Nat} {ws : List WV} (h : POwn T R w pa m ws) (hk : Kept G w w') (hd : ∀ g, 1 ≤ T g → R g → ¬ G g) : POwn T R w' pa m ws := by
  refine ⟨h.1, ?_, fun i hi => ⟨(h.2.2 i hi).1.kept hk (fun j hj => hd j (by omega) hj.2), (h.2.2 i hi).2⟩⟩
  by_cases hm : m = 0
  · exact .inl hm
  rcases h.2.1 with h0 | ⟨g, off, e, hg, hc⟩
  · exact .inl h0
  · refine .inr ⟨g, off, e, hg, fun i hi => ?_⟩
    have hb := hk.block g (World.block_lt_of_cell? w _ (hc i hi).2) (hd g (by omega) hg.2)
    rw [World.cell?_of_block (a := ⟨g, off + i * 2, none⟩) hb, World.frozen?_of_block (a := ⟨g, off + i * 2, none⟩) hb, World.cell?_of_block (a := ⟨g, off + i * 2 + 1, none⟩) hb]
    exact hc i hi
theorem POwn.below {T : Nat → Nat} {R : Nat → Prop} {w w' : World} {pa : Option Addr} {m : Nat} {ws : List WV} (h : POwn T R w pa m ws) (hb : Below w.heap.size w w') : POwn T R w' pa m ws :=
  h.kept (Kept.of_below hb fun _ => False) fun _ _ _ => id

/-- The number with which the marks of write i begin. -/
def mpos (k : Int) (ws : List WV) : Nat → Int
  | 0 => k
  | i + 1 => mpos k ws i + 1 + wN ws i
theorem mpos_bound (k : Int) (ws : List WV) (m : Nat) (h : ∀ i, i < m → wN ws i ≤ 2097152) : ∀ i, i ≤ m → k ≤ mpos k ws i ∧ mpos k ws i ≤ k + (i : Int) * 2097153
  | 0, _ => by simp [mpos]
  | i + 1, hi => by
    have ih := mpos_bound k ws m h i (by omega)
    have := h i (by omega)
    simp only [mpos]
    omega
theorem mpos_congr (k : Int) (ws ws' : List WV) (m : Nat) (h : ∀ i, i < m → wN ws i = wN ws' i) : ∀ i, i ≤ m → mpos k ws i = mpos k ws' i
  | 0, _ => rfl
  | i + 1, hi => by simp only [mpos, mpos_congr k ws ws' m h i (by omega), h i (by omega)]

/-- All is marked from k on. -/
def Marked (k : Int) (ws : List WV) : Prop := ∀ i, i < ws.length → wBlk ws i = mpos k ws i ∧ wBs ws i = marks (mpos k ws i + 1) (wN ws i)

def mW (k : Int) (ws : List WV) : List WV := (List.range ws.length).map fun i => ⟨mpos k ws i, wA ws i, wN ws i, wC ws i, marks (mpos k ws i + 1) (wN ws i)⟩
theorem mW_len (k : Int) (ws : List WV) : (mW k ws).length = ws.length := by simp [mW]
theorem mW_at (k : Int) (ws : List WV) (i : Nat) (h : i < ws.length) : wBlk (mW k ws) i = mpos k ws i ∧ wA (mW k ws) i = wA ws i ∧ wN (mW k ws) i = wN ws i ∧ wC (mW k ws) i = wC ws i ∧ wBs (mW k ws) i = marks (mpos k ws i + 1) (wN ws i) := by
  have e : (mW k ws)[i]? = some ⟨mpos k ws i, wA ws i, wN ws i, wC ws i, marks (mpos k ws i + 1) (wN ws i)⟩ := by simp [mW, h]
  simp [wBlk, wA, wN, wC, wBs, e]
theorem mW_pos (k : Int) (ws : List WV) (i : Nat) (h : i ≤ ws.length) : mpos k (mW k ws) i = mpos k ws i :=
  mpos_congr k _ _ ws.length (fun i hi => (mW_at k ws i hi).2.2.1) i h
theorem mW_marked (k : Int) (ws : List WV) : Marked k (mW k ws) := by
  intro i hi
  rw [mW_len] at hi
  obtain ⟨e1, e2, e3, e4, e5⟩ := mW_at k ws i hi
  rw [e1, e5, e3, mW_pos k ws i (by omega)]
  exact ⟨rfl, rfl⟩

/-- The list in mid-way: the first j are marked. -/
structure Mid (T : Nat → Nat) (R : Nat → Prop) (k : Int) (w0 w : World) (g off m : Nat) (ws : List WV) (j : Nat) : Prop where
  cells : ∀ i, i < m → (w.cell? ⟨g, off + i * 2, none⟩ = some (.int .i64 (if i < j then mpos k ws i else wBlk ws i)) ∧ w.frozen? ⟨g, off + i * 2, none⟩ = false) ∧ w.cell? ⟨g, off + i * 2 + 1, none⟩ = some (.slice (wA ws i) (wN ws i) (wC ws i))
  rows : ∀ i, i < m → Row .u8 (fun g => T g = 2 + i ∧ R g) w (wA ws i) (wN ws i) (if i < j then marks (mpos k ws i + 1) (wN ws i) else wBs ws i)
  kept : Kept (fun g => 1 ≤ T g ∧ R g) w0 w

theorem Mid.done {T : Nat → Nat} {R : Nat → Prop} {k : Int} {w0 w : World} {g off m : Nat} {ws : List WV} (h : Mid T R k w0 w g off m ws m) (hg : T g = 1 ∧ R g) (hl : ws.length = m) (hs : ∀ i, i < m → wN ws i ≤ 2097152) : POwn T R w (some ⟨g, off, none⟩) m (mW k ws) := by
  refine ⟨by rw [mW_len]; exact hl, .inr ⟨g, off, rfl, hg, fun i hi => ?_⟩, fun i hi => ?_⟩
  · obtain ⟨e1, e2, e3, e4, e5⟩ := mW_at k ws i (by omega)
    rw [e1, e2, e3, e4]
    have := h.cells i hi
    rw [if_pos hi] at this
    exact this
  · obtain ⟨e1, e2, e3, e4, e5⟩ := mW_at k ws i (by omega)
    rw [e2, e3, e5]
    have := h.rows i hi
    rw [if_pos hi] at this
    exact ⟨this, hs i hi⟩

/-- One round: the block's number, then the bytes. -/
theorem Mid.step {T : Nat → Nat} {R : Nat → Prop} {k : Int} {w0 w w' : World} {g off m : Nat} {ws : List WV} {j : Nat} (h : Mid T R k w0 w g off m ws j) (hg : T g = 1 ∧ R g) (hj : j < m)
    (hr : Row .u8 (fun g => T g = 2 + j ∧ R g) w' (wA ws j) (wN ws j) (marks (mpos k ws j + 1) (wN ws j))) (hk : Kept (fun g => T g = 2 + j ∧ R g) (w.setCell ⟨g, off + j * 2, none⟩ (.int .i64 (mpos k ws j))) w') :
    Mid T R k w0 w' g off m ws (j + 1) := by
  have hs : Kept (fun x => x = g) w (w.setCell ⟨g, off + j * 2, none⟩ (.int .i64 (mpos k ws j))) := Kept.setCell _ _ _ _ rfl
  refine ⟨fun i hi => ?_, fun i hi => ?_, ?_⟩
  · have hc := h.cells i hi
    have hlt : g < (w.setCell ⟨g, off + j * 2, none⟩ (.int .i64 (mpos k ws j))).heap.size := Nat.lt_of_lt_of_le (World.block_lt_of_cell? w _ hc.2) hs.size
    have hb := hk.block g hlt (fun x => by omega)
    rw [World.cell?_of_block (a := ⟨g, off + i * 2, none⟩) hb, World.frozen?_of_block (a := ⟨g, off + i * 2, none⟩) hb, World.cell?_of_block (a := ⟨g, off + i * 2 + 1, none⟩) hb, World.frozen?_setCell]
    rw [World.cell?_setCell_other (a := ⟨g, off + j * 2, none⟩) (b := ⟨g, off + i * 2 + 1, none⟩) (h := by intro e; injection e with e1 e2 e3; omega)]
    refine ⟨⟨?_, hc.1.2⟩, hc.2⟩
    by_cases e : i = j
    · subst e
      rw [if_pos (by omega)]
      exact World.cell?_setCell_same _ _ _ hc.1.1
    · rw [World.cell?_setCell_other (a := ⟨g, off + j * 2, none⟩) (b := ⟨g, off + i * 2, none⟩) (h := by intro e; injection e with e1 e2 e3; omega), hc.1.1]
      by_cases h' : i < j
      · rw [if_pos h', if_pos (by omega)]
      · rw [if_neg h', if_neg (by omega)]
  · by_cases e : i = j
    · subst e
      rw [if_pos (by omega)]
      exact hr
    · have := ((h.rows i hi).kept hs (fun x hx e => by subst e; omega)).kept hk (fun x hx hx' => by omega)
      by_cases h' : i < j
      · rw [if_pos h'] at this; rw [if_pos (by omega)]; exact this
      · rw [if_neg h'] at this; rw [if_neg (by omega)]; exact this
  · exact (h.kept.trans (hs.mono fun x hx => by subst hx; exact ⟨by omega, hg.2⟩)).trans (hk.mono fun x hx => ⟨by omega, hx.2⟩)

end Go.Proofs.YtonpdbajoidigaaGreatDoor

/-
  markDisk, heldDisk.
-/
namespace Go.Proofs.YtonpdbajoidigaaGreatDoor
open Go.RowKit

theorem Row.alloc {k : IntKind} {G : Nat → Prop} {w : World} {a : Option Addr} {n : Nat} {xs : List Int} (h : Row k G w a n xs) (o : Obj) : Row k G (w.alloc o) a n xs :=
  h.below ((Below.refl _ _).alloc (Nat.le_refl _) _)
theorem Kept.alloc (w : World) (o : Obj) (G : Nat → Prop) : Kept G w (w.alloc o) := Kept.of_below ((Below.refl _ _).alloc (Nat.le_refl _) _) _

end Go.Proofs.YtonpdbajoidigaaGreatDoor

/-
  NewDisk: the two functions, and the law.
-/
namespace Go.Proofs.YtonpdbajoidigaaGreatDoor
open Go.RowKit

/-- The bytes of a new disk. -/
def newD (b : Int) : List Int := if 1 ≤ b ∧ b ≤ 1200 then List.replicate (b.toNat * 64) 0 else []

theorem zeros_at (n i : Nat) : (List.replicate n (0 : Int))[i]?.getD 0 = 0 := by
  by_cases h : i < n <;> simp [h]


theorem two_cells {w1 : World} {g : Nat} {t : TypeId} {x y : Value} (h : w1.heap[g]? = some (.cells #[x, y] t (0, 0))) :
    w1.cell? ⟨g, 0, none⟩ = some x ∧ w1.cell? ⟨g, 1, none⟩ = some y ∧ w1.frozen? ⟨g, 0, none⟩ = false ∧ w1.frozen? ⟨g, 1, none⟩ = false := by
  refine ⟨by rw [cell_of_row w1 g 0 _ _ _ h]; rfl, by rw [cell_of_row w1 g 1 _ _ _ h]; rfl, ?_, ?_⟩ <;> simp [World.frozen?, h]

theorem newD_fin {w w1 : World} {n : Nat} {x y u v : Value} {b : Int} (hown : w1.ownsRow w.heap.size 5 1 (.slice (some ⟨w.heap.size + 1, 0, none⟩) (n * 64) (n * 64)) (n * 64) (madeCells #[.int .u8 0] (n * 64)).toList)
    (hgrow : (w.alloc (.cells #[x, y] 33)).grownBy w1 none) (HN : newD b = List.replicate (n * 64) 0) :
    Row .u8 (fun g => w.heap.size ≤ g ∧ g < ((w1.setCell ⟨w.heap.size, 0, none⟩ u).setCell ⟨w.heap.size, 1, none⟩ v).heap.size) ((w1.setCell ⟨w.heap.size, 0, none⟩ u).setCell ⟨w.heap.size, 1, none⟩ v) (some ⟨w.heap.size + 1, 0, none⟩) (n * 64) (newD b) ∧
    Below w.heap.size w ((w1.setCell ⟨w.heap.size, 0, none⟩ u).setCell ⟨w.heap.size, 1, none⟩ v) := by
  have hsz := made_size hown
  have e : ((w1.setCell ⟨w.heap.size, 0, none⟩ u).setCell ⟨w.heap.size, 1, none⟩ v).heap.size = w1.heap.size := by simp [World.setCell]
  constructor
  · have r : Row .u8 (fun g => g = w.heap.size + 1) w1 (some ⟨w.heap.size + 1, 0, none⟩) (n * 64) (newD b) := (made_cells hown).row rfl (by rw [HN]; simp) (by intro i _; rw [HN]; exact zeros_at _ _)
    have k1 : Kept (fun g => g = w.heap.size) w1 ((w1.setCell ⟨w.heap.size, 0, none⟩ u).setCell ⟨w.heap.size, 1, none⟩ v) := (Kept.setCell w1 ⟨w.heap.size, 0, none⟩ u (fun g => g = w.heap.size) rfl).trans (Kept.setCell _ ⟨w.heap.size, 1, none⟩ v (fun g => g = w.heap.size) rfl)
    exact (r.kept k1 (fun j h1 h2 => by omega)).mono (fun g hg => by rw [e]; omega)
  · have h1 : Below w.heap.size w w1 := ((Below.refl _ _).alloc (Nat.le_refl _) _).trans ((Below.of_grown hgrow).mono (by simp))
    exact (h1.setCell (Nat.le_refl _) _).setCell (Nat.le_refl _) _

set_option maxHeartbeats 1000000 in
set_option maxRecDepth 100000 in
theorem newDisk_impl (b : Int) (w : World) :
    Calls Tryz.prog 14 #[.int .i64 b] w fun e w' => ∃ a n, e = .returned (.agg #[.slice a n n, .slice none 0 0]) ∧ Row .u8 (fun g => w.heap.size ≤ g ∧ g < w'.heap.size) w' a n (newD b) ∧ n ≤ 76800 ∧ Below w.heap.size w w' := by
  obtain ⟨i0, hi, hz0, hz1, hz2⟩ := info_parts info5
  by_cases hv : 1 ≤ b ∧ b ≤ 1200
  · obtain ⟨n, rfl⟩ := Int.eq_ofNat_of_zero_le (show 0 ≤ b by omega)
    have HN : Hid (newD (n : Int) = List.replicate (n * 64) 0) := by show _ = _; simp only [newD, if_pos hv, Int.toNat_natCast]
    obtain ⟨v1, v2⟩ := hv
    go_enter Tryz.func14, Tryz.ntmps14
    go_wp2_with (at_make; refine wpList_make_full _ rfl _ _ 22 rfl w.heap.size 5 i0 (.int .u8 0) 1 Tryz.underlying22 hi hz0 hz1 .i64 .i64 _ _ (n * 64) rfl rfl (by omega) (by omega) ?c1 ?c2 ?c3 ?_)
    case c1 => rw [hz2]; omega
    case c2 => unfold maxLen; omega
    case c3 => simp
    intro w1 hown hgrow
    obtain ⟨q1, q2, q3, q4⟩ := two_cells ((hgrow.block w.heap.size (by simp) (by simp)).trans (heap_alloc_new w _))
    have hfin := @newD_fin w w1 n _ _ (.slice (some ⟨w.heap.size + 1, 0, none⟩) (n * 64) (n * 64)) (.slice none 0 0) _ hown hgrow HN.out
    clear hown hgrow hi hz0 hz1 hz2
    go_wp2
    refine bodyPost_ret (v := .agg #[.slice (some ⟨w.heap.size + 1, 0, none⟩) (n * 64) (n * 64), .slice none 0 0]) (by simp [results, Tryz.results14, go_sem, q1, q2]) rfl ?_
    exact ⟨_, _, rfl, hfin.1, by omega, hfin.2⟩
  · have HN : Hid (newD b = []) := by show _ = _; simp only [newD, if_neg hv]
    clear hi hz0 hz1 hz2
    by_cases h1 : b < 1
    · go_enter Tryz.func14, Tryz.ntmps14
      go_wp2
      refine bodyPost_ret (v := .agg #[.slice none 0 0, .slice none 0 0]) (by simp [results, Tryz.results14, go_sem]) rfl ?_
      exact ⟨_, _, rfl, ⟨by rw [HN.out]; rfl, .inl rfl⟩, by omega, (Below.refl _ _).alloc (Nat.le_refl _) _⟩
    · have h2 : 1200 < b := by omega
      go_enter Tryz.func14, Tryz.ntmps14
      go_wp2
      refine bodyPost_ret (v := .agg #[.slice none 0 0, .slice none 0 0]) (by simp [results, Tryz.results14, go_sem]) rfl ?_
      exact ⟨_, _, rfl, ⟨by rw [HN.out]; rfl, .inl rfl⟩, by omega, (Below.refl _ _).alloc (Nat.le_refl _) _⟩

end Go.Proofs.YtonpdbajoidigaaGreatDoor

/-
  FnExactNewDisk: the law's walk.
-/
namespace Go.Proofs.YtonpdbajoidigaaGreatDoor
open Go.RowKit

theorem Row.size {k : IntKind} {G : Nat → Prop} {w : World} {a : Option Addr} {n : Nat} {xs : List Int} (h : Row k G w a n xs) : xs.length = n := h.1
/-- One tag for all blocks. -/
def T0 (_ : Nat) : Nat := 0
theorem pread_nil (w : World) (a : Option Addr) : PRead w a 0 [] := ⟨rfl, .inl rfl, fun i hi => absurd hi (by omega)⟩
theorem pown_nil (T : Nat → Nat) (R : Nat → Prop) (w : World) (a : Option Addr) : POwn T R w a 0 [] := ⟨rfl, .inl rfl, fun i hi => absurd hi (by omega)⟩

end Go.Proofs.YtonpdbajoidigaaGreatDoor

/-
  szWrite, szWriteS, szDisk: how much an argument holds.
-/
namespace Go.Proofs.YtonpdbajoidigaaGreatDoor
open Go.RowKit

/-- At pa lie m writes: ws; nothing is said of their sizes. -/
def PRaw (w : World) (pa : Option Addr) (m : Nat) (ws : List WV) : Prop :=
  ws.length = m ∧ (m = 0 ∨ ∃ g off, pa = some ⟨g, off, none⟩ ∧ ∀ i, i < m → w.cell? ⟨g, off + i * 2, none⟩ = some (.int .i64 (wBlk ws i)) ∧ w.cell? ⟨g, off + i * 2 + 1, none⟩ = some (.slice (wA ws i) (wN ws i) (wC ws i))) ∧
  ∀ i, i < m → IRow .u8 w (wA ws i) (wN ws i) (wBs ws i)
theorem PRaw.read {w : World} {pa : Option Addr} {m : Nat} {ws : List WV} (h : PRaw w pa m ws) (hb : ∀ i, i < m → wN ws i ≤ 2097152) : PRead w pa m ws :=
  ⟨h.1, h.2.1, fun i hi => ⟨h.2.2 i hi, hb i hi⟩⟩
theorem PRaw.below {w w' : World} {pa : Option Addr} {m : Nat} {ws : List WV} (h : PRaw w pa m ws) (hb : Below w.heap.size w w') : PRaw w' pa m ws := by
  refine ⟨h.1, ?_, fun i hi => (h.2.2 i hi).below hb⟩
  by_cases hm : m = 0
  · exact .inl hm
  rcases h.2.1 with h0 | ⟨g, off, e, hc⟩
  · exact .inl h0
  · refine .inr ⟨g, off, e, fun i hi => ?_⟩
    rw [hb.cell (World.block_lt_of_cell? w _ (hc i hi).1), hb.cell (World.block_lt_of_cell? w _ (hc i hi).2)]
    exact hc i hi

/-- Every length is one of Go's. -/
def Lens (n : Nat) (ws : List WV) : Prop := ∀ i, i < n → (wN ws i : Int) ≤ 9223372036854775807

end Go.Proofs.YtonpdbajoidigaaGreatDoor

/-
  toWrite, toWriteS, toDisk: an argument copied.
-/
namespace Go.Proofs.YtonpdbajoidigaaGreatDoor
open Go.RowKit
set_option linter.unusedSimpArgs false
set_option linter.unusedVariables false

theorem Row.lt {k : IntKind} {G : Nat → Prop} {w : World} {a : Option Addr} {n : Nat} {xs : List Int} (h : Row k G w a n xs) : Row k (fun g => G g ∧ g < w.heap.size) w a n xs := by
  refine ⟨h.1, ?_⟩
  by_cases hn : n = 0
  · exact .inl hn
  rcases h.2 with h0 | ⟨g, off, e, hg, hc⟩
  · exact .inl h0
  · exact .inr ⟨g, off, e, ⟨hg, World.block_lt_of_cell? w _ (hc 0 (by omega)).1⟩, hc⟩

theorem three_vars {w w1 : World} {o1 o2 o3 : Obj} (hb : Below (((w.alloc o1).alloc o2).alloc o3).heap.size (((w.alloc o1).alloc o2).alloc o3) w1) :
    w1.heap[w.heap.size]? = some o1 ∧ w1.heap[w.heap.size + 1]? = some o2 ∧ w1.heap[w.heap.size + 2]? = some o3 := by
  have s1 : (w.alloc o1).heap.size = w.heap.size + 1 := by simp
  have s2 : ((w.alloc o1).alloc o2).heap.size = w.heap.size + 2 := by simp
  have s3 : (((w.alloc o1).alloc o2).alloc o3).heap.size = w.heap.size + 3 := by simp
  refine ⟨?_, ?_, ?_⟩
  · rw [hb.block _ (by rw [s3]; omega), heap_alloc_old _ _ (by rw [s2]; omega), heap_alloc_old _ _ (by rw [s1]; omega)]; exact heap_alloc_new w o1
  · rw [hb.block _ (by rw [s3]; omega), heap_alloc_old _ _ (by rw [s2]; omega), ← s1]; exact heap_alloc_new _ o2
  · rw [hb.block _ (by rw [s3]; omega), ← s2]; exact heap_alloc_new _ o3

theorem info96 : (Tryz.prog.info? 96).map (fun i => (i.zero, i.size, i.bytes)) = some (some (.agg #[.int .i64 0, .slice none 0 0]), 2, 32) := by kernel_rfl

theorem made_two (x y : Value) (n i : Nat) (h : i < n) : (madeCells #[x, y] (n * 2)).toList[i * 2]? = some x ∧ (madeCells #[x, y] (n * 2)).toList[i * 2 + 1]? = some y := by
  have h1 : i * 2 < n * 2 := by omega
  have h2 : i * 2 + 1 < n * 2 := by omega
  constructor
  · simp [madeCells, h1]
  · simp [madeCells, h2, Nat.add_mod]

/-- Half-way: the first j writes are copied. -/
structure ToMid (T : Nat → Nat) (B : Nat) (w : World) (n : Nat) (ws vs : List WV) (j : Nat) : Prop where
  len : vs.length = n
  tag : T B = 1
  cells : ∀ i, i < n → (w.cell? ⟨B, i * 2, none⟩ = some (.int .i64 (wBlk vs i)) ∧ w.frozen? ⟨B, i * 2, none⟩ = false) ∧ w.cell? ⟨B, i * 2 + 1, none⟩ = some (.slice (wA vs i) (wN vs i) (wC vs i)) ∧ w.frozen? ⟨B, i * 2 + 1, none⟩ = false
  rows : ∀ i, i < j → Row .u8 (fun g => T g = 2 + i ∧ B ≤ g) w (wA vs i) (wN vs i) (wBs vs i) ∧ wN vs i = wN ws i ∧ wBlk vs i = wBlk ws i ∧ wBs vs i = wBs ws i
  size : B < w.heap.size

theorem wget_set (vs : List WV) (j i : Nat) (x : WV) (hj : j < vs.length) : (vs.set j x)[i]?.getD wv0 = if i = j then x else vs[i]?.getD wv0 := by
  by_cases e : i = j
  · subst e; simp [hj]
  · rw [if_neg e, List.getElem?_set_ne (by omega)]

theorem ToMid.step {T : Nat → Nat} {B : Nat} {w w1 : World} {n : Nat} {ws vs : List WV} {j g : Nat} (h : ToMid T B w n ws vs j) (hj : j < n) (hb : Below w.heap.size w w1) (hg : w.heap.size ≤ g)
    (hr : Row .u8 (fun x => x = g) w1 (some ⟨g, 0, none⟩) (wN ws j) (wBs ws j)) (hs : g < w1.heap.size) :
    ToMid (fun x => if x = g then 2 + j else T x) B ((w1.setCell ⟨B, j * 2, none⟩ (.int .i64 (wBlk ws j))).setCell ⟨B, j * 2 + 1, none⟩ (.slice (some ⟨g, 0, none⟩) (wN ws j) (wN ws j))) n ws (vs.set j ⟨wBlk ws j, some ⟨g, 0, none⟩, wN ws j, wN ws j, wBs ws j⟩) (j + 1) := by
  have hl : j < vs.length := by rw [h.len]; exact hj
  have hB := h.size
  have hk : Kept (fun x => x = B) w1 ((w1.setCell ⟨B, j * 2, none⟩ (.int .i64 (wBlk ws j))).setCell ⟨B, j * 2 + 1, none⟩ (.slice (some ⟨g, 0, none⟩) (wN ws j) (wN ws j))) :=
    (Kept.setCell w1 ⟨B, j * 2, none⟩ _ (fun x => x = B) rfl).trans (Kept.setCell _ ⟨B, j * 2 + 1, none⟩ _ (fun x => x = B) rfl)
  refine ⟨by rw [List.length_set]; exact h.len, ?_, ?_, ?_, Nat.lt_of_lt_of_le (Nat.lt_of_lt_of_le hB hb.size) hk.size⟩
  · show (if B = g then 2 + j else T B) = 1
    rw [if_neg (by omega)]; exact h.tag
  · intro i hi
    obtain ⟨⟨c1, c2⟩, c3, c4⟩ := h.cells i hi
    rw [← hb.cell (p := ⟨B, i * 2, none⟩) hB] at c1
    rw [← hb.frozen (p := ⟨B, i * 2, none⟩) hB] at c2
    rw [← hb.cell (p := ⟨B, i * 2 + 1, none⟩) hB] at c3
    rw [← hb.frozen (p := ⟨B, i * 2 + 1, none⟩) hB] at c4
    simp only [wBlk, wA, wN, wC, wget_set _ _ _ _ hl, World.frozen?_setCell]
    by_cases e : i = j
    · subst e
      rw [if_pos rfl]
      refine ⟨⟨?_, c2⟩, ?_, c4⟩
      · rw [World.cell?_setCell_other (h := by intro e; injection e with e1 e2 e3; omega)]
        exact World.cell?_setCell_same _ _ _ c1
      · exact World.cell?_setCell_same _ _ _ (by rw [World.cell?_setCell_other (h := by intro e; injection e with e1 e2 e3; omega)]; exact c3)
    · rw [if_neg e]
      refine ⟨⟨?_, c2⟩, ?_, c4⟩
      · rw [World.cell?_setCell_other (h := by intro e; injection e with e1 e2 e3; omega), World.cell?_setCell_other (h := by intro e; injection e with e1 e2 e3; omega)]
        exact c1
      · rw [World.cell?_setCell_other (h := by intro e; injection e with e1 e2 e3; omega), World.cell?_setCell_other (h := by intro e; injection e with e1 e2 e3; omega)]
        exact c3
  · intro i hi
    simp only [wBlk, wA, wN, wBs, wget_set _ _ _ _ hl]
    by_cases e : i = j
    · subst e
      simp only [if_true]
      refine ⟨(hr.kept hk (fun x h1 h2 => by omega)).mono (fun x hx => ?_), by trivial, by trivial, by trivial⟩
      subst hx
      exact ⟨by simp, by omega⟩
    · simp only [if_neg e]
      obtain ⟨r, e1, e2, e3⟩ := h.rows i (by omega)
      refine ⟨?_, e1, e2, e3⟩
      have r1 := (r.lt.below hb).kept hk (fun x h1 h2 => by
        subst h2
        have := h.tag
        omega)
      refine r1.mono (fun x hx => ⟨?_, hx.1.2⟩)
      show (if x = g then 2 + j else T x) = 2 + i
      rw [if_neg (by omega)]
      exact hx.1.1

theorem ToMid.done {T : Nat → Nat} {B : Nat} {w : World} {n : Nat} {ws vs : List WV} (h : ToMid T B w n ws vs n) (hl : ws.length = n) (hs : ∀ i, i < n → wN ws i ≤ 2097152) :
    POwn T (fun g => B ≤ g ∧ g < w.heap.size) w (some ⟨B, 0, none⟩) n vs ∧ wVal vs = wVal ws := by
  constructor
  · refine ⟨h.len, .inr ⟨B, 0, rfl, ⟨h.tag, Nat.le_refl _, h.size⟩, fun i hi => ?_⟩, fun i hi => ⟨(h.rows i hi).1.lt.mono (fun g hg => ⟨hg.1.1, hg.1.2, hg.2⟩), by rw [(h.rows i hi).2.1]; exact hs i hi⟩⟩
    obtain ⟨c1, c3, c4⟩ := h.cells i hi
    simp only [Nat.zero_add]
    exact ⟨c1, c3⟩
  · apply List.ext_getElem?
    intro i
    simp only [wVal, List.getElem?_map]
    by_cases hi : i < n
    · obtain ⟨_, _, e2, e3⟩ := h.rows i hi
      have l1 : i < vs.length := by rw [h.len]; exact hi
      have l2 : i < ws.length := by rw [hl]; exact hi
      simp only [wBlk, wBs, List.getElem?_eq_getElem l1, List.getElem?_eq_getElem l2, Option.getD_some] at e2 e3
      simp [List.getElem?_eq_getElem l1, List.getElem?_eq_getElem l2, e2, e3]
    · rw [List.getElem?_eq_none (by rw [h.len]; omega), List.getElem?_eq_none (by rw [hl]; omega)]
end Go.Proofs.YtonpdbajoidigaaGreatDoor

/-
  toWriteS, toDisk.
-/
namespace Go.Proofs.YtonpdbajoidigaaGreatDoor
open Go.RowKit
set_option linter.unusedSimpArgs false
set_option linter.unusedVariables false

theorem ToMid.start {w1 : World} {B n : Nat} {ws : List WV} (h : w1.ownsRow B 96 2 (.slice (some ⟨B, 0, none⟩) n n) n (madeCells #[.int .i64 0, .slice none 0 0] (n * 2)).toList) :
    ToMid (fun x => if x = B then 1 else 0) B w1 n ws (List.replicate n wv0) 0 := by
  have e : ∀ i, i < n → (List.replicate n wv0)[i]?.getD wv0 = wv0 := fun i hi => by simp [hi]
  refine ⟨by simp, by simp, fun i hi => ?_, fun i hi => absurd hi (by omega), (h.lt B rfl).2⟩
  obtain ⟨m1, m2⟩ := made_two (.int .i64 0) (.slice none 0 0) n i hi
  simp only [wBlk, wA, wN, wC, e i hi]
  refine ⟨⟨?_, h.frozenAt _⟩, ?_, h.frozenAt _⟩
  · rw [h.cellAt _ (by omega), m1]; rfl
  · rw [h.cellAt _ (by omega), m2]; rfl

end Go.Proofs.YtonpdbajoidigaaGreatDoor

/-
  toDisk.
-/
namespace Go.Proofs.YtonpdbajoidigaaGreatDoor
open Go.RowKit
set_option linter.unusedSimpArgs false
set_option linter.unusedVariables false

theorem POwn.retag {T T' : Nat → Nat} {R R' : Nat → Prop} {w : World} {pa : Option Addr} {m : Nat} {ws : List WV} (h : POwn T R w pa m ws) (hT : ∀ g, R g → T' g = T g) (hR : ∀ g, R g → R' g) : POwn T' R' w pa m ws :=
  ⟨h.1, h.2.1.imp id fun ⟨g, off, e, hg, hc⟩ => ⟨g, off, e, ⟨by rw [hT g hg.2]; exact hg.1, hR g hg.2⟩, hc⟩, fun i hi => ⟨(h.2.2 i hi).1.mono fun g hg => ⟨by rw [hT g hg.2]; exact hg.1, hR g hg.2⟩, (h.2.2 i hi).2⟩⟩

/-- A disk of the call's own: its bytes in a block of tag 0, its writes in others; all blocks from lo to below hi. -/
structure DOwn (T : Nat → Nat) (lo hi : Nat) (w : World) (a : Option Addr) (n : Nat) (xs : List Int) (p : Option Addr) (m : Nat) (ws : List WV) : Prop where
  dur : Row .u8 (fun g => T g = 0 ∧ (lo ≤ g ∧ g < hi)) w a n xs
  pend : POwn T (fun g => lo ≤ g ∧ g < hi) w p m ws
  dn : n ≤ 2097152
  dm : m ≤ 2097152
  sz : hi ≤ w.heap.size

theorem DOwn.kept {T : Nat → Nat} {lo hi : Nat} {w w' : World} {a : Option Addr} {n : Nat} {xs : List Int} {p : Option Addr} {m : Nat} {ws : List WV} {G : Nat → Prop} (h : DOwn T lo hi w a n xs p m ws) (hk : Kept G w w') (hd : ∀ g, lo ≤ g → g < hi → ¬ G g) : DOwn T lo hi w' a n xs p m ws :=
  ⟨h.dur.kept hk (fun g hg => hd g hg.2.1 hg.2.2), h.pend.kept hk (fun g _ hg => hd g hg.1 hg.2), h.dn, h.dm, Nat.le_trans h.sz hk.size⟩
theorem DOwn.below {T : Nat → Nat} {lo hi : Nat} {w w' : World} {a : Option Addr} {n : Nat} {xs : List Int} {p : Option Addr} {m : Nat} {ws : List WV} (h : DOwn T lo hi w a n xs p m ws) (hb : Below w.heap.size w w') : DOwn T lo hi w' a n xs p m ws :=
  h.kept (Kept.of_below hb fun _ => False) fun _ _ _ => id
theorem DOwn.alloc {T : Nat → Nat} {lo hi : Nat} {w : World} {a : Option Addr} {n : Nat} {xs : List Int} {p : Option Addr} {m : Nat} {ws : List WV} (h : DOwn T lo hi w a n xs p m ws) (o : Obj) : DOwn T lo hi (w.alloc o) a n xs p m ws :=
  h.below ((Below.refl _ _).alloc (Nat.le_refl _) _)

end Go.Proofs.YtonpdbajoidigaaGreatDoor
