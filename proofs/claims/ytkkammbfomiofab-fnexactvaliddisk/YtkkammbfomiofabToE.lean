/-
  toDisk.
-/
import Derived.Test.YtkkammbfomiofabToD
namespace Go.Proofs.Ytkkammbfomiofab
open Go.RowKit
set_option linter.unusedSimpArgs false
set_option linter.unusedVariables false

theorem POwn.retag {T T' : Nat → Nat} {R R' : Nat → Prop} {w : World} {pa : Option Addr} {m : Nat} {ws : List WV} (h : POwn T R w pa m ws) (hT : ∀ g, R g → T' g = T g) (hR : ∀ g, R g → R' g) : POwn T' R' w pa m ws :=
  ⟨h.1, h.2.1.imp id fun ⟨g, off, e, hg, hc⟩ => ⟨g, off, e, ⟨by rw [hT g hg.2]; exact hg.1, hR g hg.2⟩, hc⟩, fun i hi => ⟨(h.2.2 i hi).1.mono fun g hg => ⟨by rw [hT g hg.2]; exact hg.1, hR g hg.2⟩, (h.2.2 i hi).2⟩⟩

/-- A disk of the call's own: its bytes in a block of tag 0, its writes in others; all blocks from lo to below hi. -/
structure DOwn (T : Nat → Nat) (lo hi : Nat) (w : World) (a : Option Addr) (n : Nat) (xs : List Int) (p : Option Addr) (m : Nat) (ws : List WV) : Prop where
  dur : Row .u8 (fun g => T g = 0 ∧ (lo ≤ g ∧ g < hi)) w a n xs
  pend : POwn T (fun g => lo ≤ g ∧ g < hi) w p m ws
  dn : n ≤ 2097152
  dm : m ≤ 2097152
  sz : hi ≤ w.heap.size

theorem DOwn.kept {T : Nat → Nat} {lo hi : Nat} {w w' : World} {a : Option Addr} {n : Nat} {xs : List Int} {p : Option Addr} {m : Nat} {ws : List WV} {G : Nat → Prop} (h : DOwn T lo hi w a n xs p m ws) (hk : Kept G w w') (hd : ∀ g, lo ≤ g → g < hi → ¬ G g) : DOwn T lo hi w' a n xs p m ws :=
  ⟨h.dur.kept hk (fun g hg => hd g hg.2.1 hg.2.2), h.pend.kept hk (fun g _ hg => hd g hg.1 hg.2), h.dn, h.dm, Nat.le_trans h.sz hk.size⟩
theorem DOwn.below {T : Nat → Nat} {lo hi : Nat} {w w' : World} {a : Option Addr} {n : Nat} {xs : List Int} {p : Option Addr} {m : Nat} {ws : List WV} (h : DOwn T lo hi w a n xs p m ws) (hb : Below w.heap.size w w') : DOwn T lo hi w' a n xs p m ws :=
  h.kept (Kept.of_below hb fun _ => False) fun _ _ _ => id
theorem DOwn.alloc {T : Nat → Nat} {lo hi : Nat} {w : World} {a : Option Addr} {n : Nat} {xs : List Int} {p : Option Addr} {m : Nat} {ws : List WV} (h : DOwn T lo hi w a n xs p m ws) (o : Obj) : DOwn T lo hi (w.alloc o) a n xs p m ws :=
  h.below ((Below.refl _ _).alloc (Nat.le_refl _) _)

set_option maxHeartbeats 2000000 in
theorem toDisk_any (a p : Option Addr) (n ca m cp : Nat) (xs : List Int) (ws : List WV) (w : World) (ha : IRow .u8 w a n xs) (hp : PRead w p m ws) (hn : n ≤ 2097152) (hm : m ≤ 2097152) :
    Calls Try.prog 15 #[.agg #[.slice a n ca, .slice p m cp]] w fun e w' => ∃ T vs g q, e = .returned (.agg #[.slice (some ⟨g, 0, none⟩) n n, .slice (some ⟨q, 0, none⟩) m m]) ∧
      DOwn T w.heap.size w'.heap.size w' (some ⟨g, 0, none⟩) n xs (some ⟨q, 0, none⟩) m vs ∧ wVal vs = wVal ws ∧ Below w.heap.size w w' := by
  go_enter Try.func15, Try.ntmps15
  go_wp2_with fail
  refine (toByteS_any _ _ _ xs _ (((ha.alloc _).alloc _).alloc _) hn).mono ?_
  rintro e w1 ⟨rfl, hr, hb, hs⟩
  obtain ⟨k1, k2, k3⟩ := three_vars hb
  obtain ⟨i1, i2, i3, i4⟩ := two_cells k1
  obtain ⟨q1, q2, q3, q4⟩ := two_cells k3
  have es : ((((w.alloc (.cells #[.slice a n ca, .slice p m cp] 25)).alloc (.cells #[.slice none 0 0, .slice none 0 0] 30)).alloc (.cells #[.slice none 0 0, .slice none 0 0] 30)).heap.size) = w.heap.size + 3 := by simp
  rw [es] at hr hb hs ⊢
  have hb' : Below w.heap.size w w1 := ((((Below.refl _ _).alloc (Nat.le_refl _) _).alloc (by simp) _).alloc (by simp; omega) _).trans (hb.mono (by omega))
  have hb1 : Below w.heap.size w (w1.setCell ⟨w.heap.size + 2, 0, none⟩ (.slice (some ⟨w.heap.size + 3, 0, none⟩) n n)) := hb'.setCell (by show w.heap.size ≤ w.heap.size + 2; omega) _
  have hp1 := hp.below hb1
  have kk : Kept (fun g => g = w.heap.size + 2) w1 (w1.setCell ⟨w.heap.size + 2, 0, none⟩ (.slice (some ⟨w.heap.size + 3, 0, none⟩) n n)) := Kept.setCell w1 ⟨w.heap.size + 2, 0, none⟩ _ (fun g => g = w.heap.size + 2) rfl
  have hr1 := hr.kept kk (fun g h1 h2 => by omega)
  have g1 : (w1.setCell ⟨w.heap.size + 2, 0, none⟩ (.slice (some ⟨w.heap.size + 3, 0, none⟩) n n)).heap[w.heap.size + 1]? = some (.cells #[.slice none 0 0, .slice none 0 0] 30 (0, 0)) := (kk.block _ (by omega) (by omega)).trans k2
  have g2 : (w1.setCell ⟨w.heap.size + 2, 0, none⟩ (.slice (some ⟨w.heap.size + 3, 0, none⟩) n n)).heap[w.heap.size + 2]? = some (.cells #[.slice (some ⟨w.heap.size + 3, 0, none⟩) n n, .slice none 0 0] 30 (0, 0)) := by
    simp [World.setCell, Array.getElem?_modify, k3]
  have hs1 : w.heap.size + 3 < (w1.setCell ⟨w.heap.size + 2, 0, none⟩ (.slice (some ⟨w.heap.size + 3, 0, none⟩) n n)).heap.size := by simpa [World.setCell] using hs
  have HR := hr1
  clear hr hb k1 k2 k3 ha es hp hr1
  go_wp2_with fail
  generalize w1.setCell ⟨w.heap.size + 2, 0, none⟩ (.slice (some ⟨w.heap.size + 3, 0, none⟩) n n) = W1 at *
  refine (toWriteS_any _ _ _ ws _ hp1 hm).mono ?_
  rintro e w2 ⟨T, vs, rfl, hP, hv, hb2, hs2⟩
  obtain ⟨c1, c2, c3, c4⟩ := two_cells ((hb2.block _ (by omega)).trans g1)
  obtain ⟨d1, d2, d3, d4⟩ := two_cells ((hb2.block _ (by omega)).trans g2)
  have HV : Hid (wVal vs = wVal ws) := hv
  have hfin : ∀ (u1 u2 u3 : Value), ∃ T', DOwn T' w.heap.size (((w2.setCell ⟨w.heap.size + 2, 1, none⟩ u1).setCell ⟨w.heap.size + 1, 0, none⟩ u2).setCell ⟨w.heap.size + 1, 1, none⟩ u3).heap.size (((w2.setCell ⟨w.heap.size + 2, 1, none⟩ u1).setCell ⟨w.heap.size + 1, 0, none⟩ u2).setCell ⟨w.heap.size + 1, 1, none⟩ u3) (some ⟨w.heap.size + 3, 0, none⟩) n xs (some ⟨W1.heap.size, 0, none⟩) m vs ∧
      Below w.heap.size w (((w2.setCell ⟨w.heap.size + 2, 1, none⟩ u1).setCell ⟨w.heap.size + 1, 0, none⟩ u2).setCell ⟨w.heap.size + 1, 1, none⟩ u3) := by
    intro u1 u2 u3
    have k2 : Kept (fun g => g < w.heap.size + 3) w2 (((w2.setCell ⟨w.heap.size + 2, 1, none⟩ u1).setCell ⟨w.heap.size + 1, 0, none⟩ u2).setCell ⟨w.heap.size + 1, 1, none⟩ u3) :=
      ((Kept.setCell _ ⟨w.heap.size + 2, 1, none⟩ _ (fun g => g < w.heap.size + 3) (by simp)).trans (Kept.setCell _ ⟨w.heap.size + 1, 0, none⟩ _ (fun g => g < w.heap.size + 3) (by simp))).trans (Kept.setCell _ ⟨w.heap.size + 1, 1, none⟩ _ (fun g => g < w.heap.size + 3) (by simp))
    have hsz := k2.size
    have hb3 : Below w.heap.size w (((w2.setCell ⟨w.heap.size + 2, 1, none⟩ u1).setCell ⟨w.heap.size + 1, 0, none⟩ u2).setCell ⟨w.heap.size + 1, 1, none⟩ u3) := (((hb1.trans (hb2.mono (by omega))).setCell (by show w.heap.size ≤ w.heap.size + 2; omega) _).setCell (by show w.heap.size ≤ w.heap.size + 1; omega) _).setCell (by show w.heap.size ≤ w.heap.size + 1; omega) _
    generalize ((w2.setCell ⟨w.heap.size + 2, 1, none⟩ u1).setCell ⟨w.heap.size + 1, 0, none⟩ u2).setCell ⟨w.heap.size + 1, 1, none⟩ u3 = W at *
    refine ⟨fun x => if x < W1.heap.size then 0 else T x, ⟨?_, ?_, hn, hm, Nat.le_refl _⟩, ?_⟩
    · refine ((HR.below hb2).kept k2 (fun g h1 h2 => by omega)).mono (fun g hg => ?_)
      subst hg
      exact ⟨if_pos (by omega), by omega, by omega⟩
    · refine (hP.retag (T' := fun x => if x < W1.heap.size then 0 else T x) (R' := fun g => W1.heap.size ≤ g ∧ g < W.heap.size) (fun g hg => if_neg (by omega)) (fun g hg => by omega)).kept k2 (fun g _ hg h2 => by omega) |>.retag (fun g _ => rfl) (fun g hg => by omega)
    · exact hb3
  clear hv hP hb2 HR kk hp1 g1 g2 hb1
  go_wp2
  refine bodyPost_ret (v := .agg #[.slice (some ⟨w.heap.size + 3, 0, none⟩) n n, .slice (some ⟨W1.heap.size, 0, none⟩) m m]) (by simp [results, Try.results15, go_sem, c1, c2, d1, d2]) rfl ?_
  obtain ⟨T', h1, h2⟩ := hfin _ _ _
  exact ⟨T', vs, _, _, rfl, h1, HV.out, h2⟩
end Go.Proofs.Ytkkammbfomiofab
