/-
  Roo, Nrd.
-/
import Derived.Test.YtkkammbfomiofaaDwr
import Derived.Test.YtkkammbfomiofaaGb
/-
  An answer that is a disk of its own and that an append may follow.
-/
namespace Go.Proofs.Ytkkammbfomiofaa
open Go.RowKit
set_option linter.unusedSimpArgs false
set_option linter.unusedVariables false

/-- A slice that an append may follow: all of its block is its own. -/
def Roomy (w : World) (B : Nat) (t : TypeId) (sz : Nat) (v : Value) (n : Nat) : Prop := ∃ vs, w.ownsRow B t sz v n vs
theorem Roomy.setCell {w : World} {B : Nat} {t : TypeId} {sz : Nat} {v : Value} {n : Nat} (h : Roomy w B t sz v n) (q i : Nat) (u : Value) : Roomy (w.setCell ⟨q, i, none⟩ u) B t sz v n := by
  obtain ⟨vs, hl, h | ⟨g, cap, cur, e, hB, hh, h1, h2, h3, h4⟩⟩ := h
  · exact ⟨vs, hl, .inl h⟩
  · by_cases hq : q = g
    · subst hq
      refine ⟨((cur.setIfInBounds i u).toList.take (n * sz)), ?_, .inr ⟨q, cap, cur.setIfInBounds i u, e, hB, by simp [World.setCell, Array.getElem?_modify, hh], h1, h2, by simpa using h3, rfl⟩⟩
      have : n * sz ≤ cap * sz := Nat.mul_le_mul_right _ h1
      simp; omega
    · exact ⟨vs, hl, .inr ⟨g, cap, cur, e, hB, by rw [← hh]; simp [World.setCell, Array.getElem?_modify, hq], h1, h2, h3, h4⟩⟩
theorem Roomy.alloc {w : World} {B : Nat} {t : TypeId} {sz : Nat} {v : Value} {n : Nat} (h : Roomy w B t sz v n) (o : Obj) : Roomy (w.alloc o) B t sz v n := by
  obtain ⟨vs, h⟩ := h
  exact ⟨vs, h.alloc o⟩
/-- What its cells hold is what it owns. -/
theorem Roomy.row {w : World} {B : Nat} {a : Option Addr} {n c : Nat} {G : Nat → Prop} {xs : List Int} (h : Roomy w B 5 1 (.slice a n c) n) (hr : Row .u8 G w a n xs) : w.ownsRow B 5 1 (.slice a n c) n (u8s xs) := by
  obtain ⟨vs, hl, h⟩ := h
  have e : vs = u8s xs := by
    refine List.ext_getElem? fun i => ?_
    have h1 := hr.1
    by_cases hi : i < n
    · rcases h with ⟨e, h0⟩ | ⟨g, cap, cur, e, hB, hh, h1, h2, h3, h4⟩
      · omega
      · injection e with e _ _
        obtain ⟨g', off, e', hg, hc⟩ := hr.2.resolve_left (by omega)
        rw [e] at e'
        injection e' with e'
        injection e' with e1 e2
        subst e1; subst e2
        have := (hc i hi).1
        rw [Nat.zero_add] at this
        have hcell : w.cell? ⟨g, i, none⟩ = cur[i]? := by rw [cell_of_row w g i _ _ _ hh]
        rw [hcell] at this
        rw [← h4, List.getElem?_take, if_pos (by omega), Array.getElem?_toList, this]
        have hx : i < xs.length := by omega
        simp [u8s, List.getElem?_eq_getElem hx]
    · rw [List.getElem?_eq_none (by omega), List.getElem?_eq_none (by rw [u8s_len]; omega)]
  subst e
  exact ⟨hl, h⟩
theorem rows_base {w : World} {B B' : Nat} {t : TypeId} {sz : Nat} {v : Value} {n : Nat} {vs : List Value} (h : w.ownsRow B t sz v n vs) (hb : B' ≤ B) : w.ownsRow B' t sz v n vs :=
  ⟨h.1, h.2.imp id (fun ⟨g, cap, cur, e, hB, r⟩ => ⟨g, cap, cur, e, Nat.le_trans hb hB, r⟩)⟩
theorem PAcc.base {T : Nat → Nat} {Z : Nat → Prop} {B B' : Nat} {w : World} {v : Value} {ws : List WV} (h : PAcc T Z B w v ws) (hb : B' ≤ B) : PAcc T Z B' w v ws :=
  ⟨rows_base h.row hb, h.tag, fun i hi => ⟨(h.rows i hi).1.mono (fun g hg => ⟨hg.1, Nat.le_trans hb hg.2⟩), (h.rows i hi).2⟩, h.z, h.u8⟩
/-- A disk that lies from block B on, all of it its own. -/
structure DAt (T : Nat → Nat) (B : Nat) (w : World) (a : Option Addr) (n ca : Nat) (p : Option Addr) (m cp : Nat) (vs : List WV) (xs : List Int) (val : List (Int × List Int)) : Prop where
  dur : w.ownsRow B 5 1 (.slice a n ca) n (u8s xs)
  pend : PAcc T (fun g => (Value.slice a n ca).ownBlock = some g) B w (.slice p m cp) vs
  len : vs.length = m
  val : wVal vs = val
  dn : n ≤ 2097152
  dm : m ≤ 2097152
theorem DAt.base {T : Nat → Nat} {B B' : Nat} {w : World} {a : Option Addr} {n ca : Nat} {p : Option Addr} {m cp : Nat} {vs : List WV} {xs : List Int} {val : List (Int × List Int)} (h : DAt T B w a n ca p m cp vs xs val) (hb : B' ≤ B) : DAt T B' w a n ca p m cp vs xs val :=
  ⟨rows_base h.dur hb, h.pend.base hb, h.len, h.val, h.dn, h.dm⟩
theorem PAcc.keptB {T : Nat → Nat} {Z : Nat → Prop} {B : Nat} {w w' : World} {v : Value} {ws : List WV} {G : Nat → Prop} (h : PAcc T Z B w v ws) (hk : Kept G w w') (hG : ∀ g, G g → g < B) : PAcc (fun g => if g < B then 0 else T g) Z B w' v ws := by
  refine ⟨row_kept h.row hk (fun g hg hh => by have := (h.row.lt g hg).1; have := hG g hh; omega), fun g hg => ?_, fun i hi => ⟨((h.rows i hi).1.kept hk (fun g hg hh => by have := hG g hh; omega)).mono (fun g hg => ⟨?_, hg.2⟩), (h.rows i hi).2⟩, fun g hg => ?_, fun g hg => ?_⟩
  · have := (h.row.lt g hg).1
    show (if g < B then 0 else T g) = 1
    rw [if_neg (by omega)]; exact h.tag g hg
  · show (if g < B then 0 else T g) = 2 + i
    rw [if_neg (by omega)]; exact hg.1
  · show (if g < B then 0 else T g) = 0
    split
    · rfl
    · exact h.z g hg
  · have hg' : 2 ≤ if g < B then 0 else T g := hg
    by_cases e : g < B
    · rw [if_pos e] at hg'; omega
    · rw [if_neg e] at hg'
      obtain ⟨cur, hc⟩ := h.u8 g hg'
      exact ⟨cur, (hk.block g (Array.getElem?_eq_some_iff.1 hc).1 (fun hh => e (hG g hh))).trans hc⟩
theorem DAt.kept {T : Nat → Nat} {B : Nat} {w w' : World} {a : Option Addr} {n ca : Nat} {p : Option Addr} {m cp : Nat} {vs : List WV} {xs : List Int} {val : List (Int × List Int)} {G : Nat → Prop} (h : DAt T B w a n ca p m cp vs xs val) (hk : Kept G w w') (hG : ∀ g, G g → g < B) : DAt (fun g => if g < B then 0 else T g) B w' a n ca p m cp vs xs val :=
  ⟨row_kept h.dur hk (fun g hg hh => by have := (h.dur.lt g hg).1; have := hG g hh; omega), h.pend.keptB hk hG, h.len, h.val, h.dn, h.dm⟩
theorem DAt.own {T : Nat → Nat} {B : Nat} {w : World} {a : Option Addr} {n ca : Nat} {p : Option Addr} {m cp : Nat} {vs : List WV} {xs : List Int} {val : List (Int × List Int)} (h : DAt T B w a n ca p m cp vs xs val) : DOwn T B w.heap.size w a n xs p m vs := by
  refine ⟨?_, h.pend.own h.len, h.dn, h.dm, Nat.le_refl _⟩
  obtain ⟨a9, c9, e9, r9⟩ := owns_row h.dur
  injection e9 with e9
  subst e9
  refine ⟨r9.1, r9.2.imp id ?_⟩
  rintro ⟨g, off, rfl, hg, hc⟩
  exact ⟨g, off, rfl, ⟨h.pend.z g rfl, hg⟩, hc⟩
theorem DAt.cap {T : Nat → Nat} {B : Nat} {w : World} {a : Option Addr} {n ca : Nat} {p : Option Addr} {m cp : Nat} {vs : List WV} {xs : List Int} {val : List (Int × List Int)} (h : DAt T B w a n ca p m cp vs xs val) : n ≤ ca := by
  by_cases h0 : n = 0
  · omega
  · obtain ⟨_, _, hc, _⟩ := owns_range h.dur 0 0 (by omega)
    exact hc
/-- An answer that is such a disk. -/
def SAns (w w' : World) (e : Ending) (xs : List Int) (val : List (Int × List Int)) : Prop :=
  ∃ T vs a n ca p m cp, e = .returned (.agg #[.slice a n ca, .slice p m cp]) ∧ DAt T w.heap.size w' a n ca p m cp vs xs val ∧ Below w.heap.size w w'
theorem SAns.d {w w' : World} {e : Ending} {xs : List Int} {val : List (Int × List Int)} (h : SAns w w' e xs val) : DAns w w' e xs val := by
  obtain ⟨T, vs, a, n, ca, p, m, cp, h1, h2, h3⟩ := h
  exact ⟨T, vs, a, n, ca, p, m, cp, h1, h2.own, h2.val, h2.cap, h3⟩
theorem DAt.nil (B : Nat) (w : World) : DAt (fun _ => 0) B w none 0 0 none 0 0 [] [] [] := ⟨⟨rfl, .inl ⟨rfl, rfl⟩⟩, PAcc.nil _ _ _, rfl, rfl, by omega, by omega⟩
theorem SAns.nil (w w' : World) (hb : Below w.heap.size w w') : SAns w w' (.returned (.agg #[.slice none 0 0, .slice none 0 0])) [] [] :=
  ⟨_, _, _, _, _, _, _, _, rfl, DAt.nil _ _, hb⟩
/-- Behind the two stores into the answer's variable. -/
theorem SAns.stored {T : Nat → Nat} {B R : Nat} {w W : World} {a : Option Addr} {n ca : Nat} {p : Option Addr} {m cp : Nat} {vs : List WV} {xs : List Int} {val : List (Int × List Int)} (h : DAt T B W a n ca p m cp vs xs val) (hR : R < B) (h1 : w.heap.size ≤ R) (hB : Below w.heap.size w W) (u1 u2 : Value) :
    SAns w ((W.setCell ⟨R, 0, none⟩ u1).setCell ⟨R, 1, none⟩ u2) (.returned (.agg #[.slice a n ca, .slice p m cp])) xs val :=
  ⟨_, vs, a, n, ca, p, m, cp, rfl, (h.kept ((Kept.setCell W ⟨R, 0, none⟩ u1 (fun g => g = R) rfl).trans (Kept.setCell _ ⟨R, 1, none⟩ u2 (fun g => g = R) rfl)) (fun g hg => by omega)).base (by omega), (hB.setCell h1 _).setCell h1 _⟩
end Go.Proofs.Ytkkammbfomiofaa

/-
  A new disk that an append may follow.
-/
namespace Go.Proofs.Ytkkammbfomiofaa
open Go.RowKit
set_option linter.unusedSimpArgs false
set_option linter.unusedVariables false

set_option maxHeartbeats 1000000 in
set_option maxRecDepth 100000 in
theorem newDisk_room (b : Int) (w : World) (hv : 1 ≤ b ∧ b ≤ 1200) :
    Calls Try.prog 70 #[.int .i64 b] w fun e w' => SAns w w' e (newD b) [] := by
  obtain ⟨i0, hi, hz0, hz1, hz2⟩ := info_parts info5
  obtain ⟨n, rfl⟩ := Int.eq_ofNat_of_zero_le (show 0 ≤ b by omega)
  have HN : Hid (newD (n : Int) = List.replicate (n * 64) 0) := by show _ = _; simp only [newD, if_pos hv, Int.toNat_natCast]
  obtain ⟨v1, v2⟩ := hv
  go_enter Try.func70, Try.ntmps70
  go_wp2_with (at_make; refine wpList_make_full _ rfl _ _ 22 rfl (w.heap.size + 1) 5 i0 (.int .u8 0) 1 Try.underlying22 hi hz0 hz1 .i64 .i64 _ _ (n * 64) rfl rfl (by omega) (by omega) ?c1 ?c2 ?c3 ?_)
  case c1 => rw [hz2]; omega
  case c2 => unfold maxLen; omega
  case c3 => simp
  intro w1 hown hgrow
  obtain ⟨q1, q2, q3, q4⟩ := two_cells ((hgrow.block w.heap.size (by simp) (by simp)).trans (heap_alloc_new w _))
  have r : Row .u8 (fun g => g = w.heap.size + 1) w1 (some ⟨w.heap.size + 1, 0, none⟩) (n * 64) (newD n) := (made_cells hown).row rfl (by rw [HN.out]; simp) (by intro i _; rw [HN.out]; exact zeros_at _ _)
  have h1 : Below w.heap.size w w1 := ((Below.refl _ _).alloc (Nat.le_refl _) _).trans ((Below.of_grown hgrow).mono (by simp))
  have hfin := fun u1 u2 => SAns.stored (w := w) (R := w.heap.size) (B := w.heap.size + 1) (W := w1) ⟨Roomy.row ⟨_, hown⟩ r, PAcc.nil _ _ _, rfl, rfl, by omega, by omega⟩ (by omega) (Nat.le_refl _) h1 u1 u2
  have HFIN := Hid.out hfin
  clear hown hgrow hi hz0 hz1 hz2 r h1 hfin
  go_wp2
  refine bodyPost_ret (v := .agg #[.slice (some ⟨w.heap.size + 1, 0, none⟩) (n * 64) (n * 64), .slice none 0 0]) (by simp [results, Try.results70, go_sem, q1, q2]) rfl ?_
  exact HFIN _ _
end Go.Proofs.Ytkkammbfomiofaa
