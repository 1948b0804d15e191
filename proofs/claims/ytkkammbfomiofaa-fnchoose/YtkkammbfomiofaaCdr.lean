/-
  The cached disk: hasBlock, read.
-/
import Derived.Test.YtkkammbfomiofaaCdw
namespace Go.Proofs.Ytkkammbfomiofaa
open Go.RowKit
set_option linter.unusedSimpArgs false
set_option linter.unusedVariables false

/-- The block as its youngest write left it. -/
def readL (xs : List Int) (ws : List (Int × List Int)) (b : Int) : List Int := ws.foldl (fun acc x => if x.1 = b then x.2 else acc) ((xs.drop (64 * b.toNat)).take 64)
theorem readL_no {xs : List Int} {b : Int} : ∀ {ws : List (Int × List Int)}, (∀ x ∈ ws, x.1 ≠ b) → readL xs ws b = (xs.drop (64 * b.toNat)).take 64 := by
  intro ws h
  unfold readL
  generalize (xs.drop (64 * b.toNat)).take 64 = acc
  induction ws generalizing acc with
  | nil => rfl
  | cons x ws ih =>
    rw [List.foldl_cons, if_neg (h x (by simp))]
    exact ih (fun y hy => h y (by simp [hy])) acc
theorem readL_yes {xs : List Int} {b : Int} {ws : List (Int × List Int)} {i : Nat} {x : Int × List Int} (hi : ws[i]? = some x) (hx : x.1 = b) (hl : ∀ (j : Nat) (y : Int × List Int), i < j → ws[j]? = some y → y.1 ≠ b) : readL xs ws b = x.2 := by
  have hlt : i < ws.length := (List.getElem?_eq_some_iff.1 hi).1
  have e : ws = ws.take i ++ x :: ws.drop (i + 1) := by
    have h1 : ws[i] = x := by rw [List.getElem?_eq_getElem hlt] at hi; injection hi
    rw [← h1, List.getElem_cons_drop, List.take_append_drop]
  have hd : ∀ y ∈ ws.drop (i + 1), y.1 ≠ b := by
    intro y hy
    obtain ⟨j, hj⟩ := List.mem_iff_getElem?.1 hy
    rw [List.getElem?_drop] at hj
    exact hl (i + 1 + j) y (by omega) hj
  unfold readL
  rw [e, List.foldl_append, List.foldl_cons, if_pos hx]
  generalize ws.drop (i + 1) = r at hd
  generalize x.2 = acc
  clear e hi hl hlt hx
  induction r generalizing acc with
  | nil => rfl
  | cons y r ih =>
    rw [List.foldl_cons, if_neg (hd y (by simp))]
    exact ih (fun z hz => hd z (by simp [hz])) acc

/-- The cells of write i. -/
theorem cws_at {ws : List (Int × List Int)} (hl : ∀ x ∈ ws, x.2.length = 64) : ∀ {i : Nat} {x : Int × List Int}, ws[i]? = some x → ((cwsL ws).drop (i * 65)).take 65 = cwL x := by
  induction ws with
  | nil => intro i x h; simp at h
  | cons y ws ih =>
    intro i x h
    have hy : (cwL y).length = 65 := cwL_len y (hl y (by simp))
    have e : cwsL (y :: ws) = cwL y ++ cwsL ws := by simp [cwsL]
    cases i with
    | zero =>
      simp at h
      subst h
      rw [e, Nat.zero_mul, List.drop_zero, List.take_append_of_le_length (by omega), List.take_of_length_le (by omega)]
    | succ i =>
      rw [e, show (i + 1) * 65 = (cwL y).length + i * 65 by rw [hy]; omega, List.drop_append]
      simp at h
      have hz : (cwL y).drop ((cwL y).length + i * 65) = [] := List.drop_eq_nil_of_le (by omega)
      rw [hz, List.nil_append, show (cwL y).length + i * 65 - (cwL y).length = i * 65 by omega]
      exact ih (fun z hz => hl z (by simp [hz])) h

/-- Cells of an owned row. -/
theorem owns_range {w : World} {B e sz n : Nat} {a : Option Addr} {c : Nat} {vs : List Value} (h : w.ownsRow B e sz (.slice a n c) n vs) (i k : Nat) (hn : 0 < n) : ∃ g, a = some ⟨g, 0, none⟩ ∧ n ≤ c ∧ w.rangeAt g i ((vs.drop i).take k) := by
  rcases h.2 with ⟨e1, h0⟩ | ⟨g, cap, cur, e1, hB, hh, hcap, _, hcs, htk⟩
  · omega
  · injection e1 with e1 e2 e3
    subst e3
    refine ⟨g, e1, hcap, fun j v hv => ?_⟩
    rw [cell_of_row w g (i + j) _ _ _ hh]
    rw [List.getElem?_take] at hv
    split at hv
    · rw [List.getElem?_drop, ← htk, List.getElem?_take] at hv
      split at hv
      · simpa using hv
      · cases hv
    · cases hv

/-- Block k of the bytes. -/
def chk64 (xs : List Int) (k : Nat) : List Int := (xs.drop (64 * k)).take 64

theorem hasBlock_any (B C nb : Nat) (xs : List Int) (ws : List (Int × List Int)) (da : Option Addr) (dc : Nat) (wv : Value) (M : Nat) (D : DataW Unit) (b : Int) (w : World) (h : CD B w C nb xs ws (.slice da nb dc) wv M D) :
    Calls Try.prog 39 #[.pointer (some ⟨C, 0, none⟩), .int .i64 b] w fun e w' => e = .returned (.bool (decide (0 ≤ b ∧ b < (nb : Int)))) ∧ w' = w := by
  obtain ⟨k1, k2, k3, kf⟩ := cells3 h.cell
  by_cases h0 : 0 ≤ b
  · by_cases h1 : b < (nb : Int)
    · have HF : Hid (decide (0 ≤ b ∧ b < (nb : Int)) = true) := by show _ = true; simp [h0, h1]
      clear h
      go_enter Try.func39, Try.ntmps39
      go_wp2
      go_ret
      exact ⟨by have := HF.out; first | exact ret_boolB this.symm | (refine ret_boolB ?_; rw [this]; simp [*]), rfl⟩
    · have HF : Hid (decide (0 ≤ b ∧ b < (nb : Int)) = false) := by show _ = false; simp [h1]
      have u1 : decide (b < (nb : Int)) = false := by simp [h1]
      have u2 : (nb : Int) ≤ b := by omega
      clear h h1
      go_enter Try.func39, Try.ntmps39
      go_wp2
      go_ret
      exact ⟨by have := HF.out; first | exact ret_boolB this.symm | (refine ret_boolB ?_; rw [this]; simp [*]), rfl⟩
  · have HF : Hid (decide (0 ≤ b ∧ b < (nb : Int)) = false) := by show _ = false; simp [h0]
    have u1 : decide (0 ≤ b) = false := by simp [h0]
    have u2 : b < 0 := by omega
    clear h h0
    go_enter Try.func39, Try.ntmps39
    go_wp2
    go_ret
    exact ⟨by have := HF.out; first | exact ret_boolB this.symm | (refine ret_boolB ?_; rw [this]; simp [*]), rfl⟩

set_option maxRecDepth 100000 in
set_option maxHeartbeats 1000000 in
theorem cread_any (B C nb : Nat) (xs : List Int) (ws : List (Int × List Int)) (da : Option Addr) (dc : Nat) (wa : Option Addr) (wc M : Nat) (D : DataW Unit) (b : Int) (w : World) (h : CD B w C nb xs ws (.slice da nb dc) (.slice wa ws.length wc) M D) (hb : (Lit.int .i64 b).wf = true) (h0 : 0 ≤ b) (h1 : b < (nb : Int)) (hm : ws.length < 4096) (hnb : nb ≤ 4096) :
    Calls Try.prog 45 #[.pointer (some ⟨C, 0, none⟩), .int .i64 b] w fun e w' => e = .returned (.agg (u8s (readL xs ws b)).toArray) ∧ Below w.heap.size w w' := by
  obtain ⟨W0, hW0⟩ : ∃ W0, w.alloc (Obj.cells z64.toArray 60) = W0 := ⟨_, rfl⟩
  have hb0 : Below w.heap.size w W0 := by rw [← hW0]; exact (Below.refl _ w).alloc (Nat.le_refl _) _
  have g3 : W0.heap[w.heap.size]? = some (.cells z64.toArray 60 (0, 0)) := by rw [← hW0]; exact heap_alloc_new w _
  have h' := h.below hb0
  obtain ⟨k1, k2, k3, kf⟩ := cells3 h'.cell
  have HM : Hid (W0.ownsMap Try.prog 2 (plainElem Try.prog 3) M ws.length D) := h'.map
  have hlC := h.ltC
  rw [z64_lit] at hW0
  cases hh : Maps.has D (.int .i64 b)
  · have HR : Hid (readL xs ws b = chk64 xs b.toNat) := readL_no (h.young.no b hb hh)
    have hX : (chk64 xs b.toNat).length = 64 := by
      simp only [chk64, List.length_take, List.length_drop, h.len]
      omega
    obtain ⟨g, rfl, hcap, rng⟩ := owns_range h'.dur (b.toNat * 64) 64 (by omega)
    have e1 : ((u8s xs).drop (b.toNat * 64)).take 64 = u8s (chk64 xs b.toNat) := by simp [u8s, chk64, List.map_take, List.map_drop, Nat.mul_comm]
    rw [e1] at rng
    obtain ⟨bn, rfl⟩ : ∃ bn : Nat, b = (bn : Int) := ⟨b.toNat, by omega⟩
    simp only [Int.toNat_natCast] at rng hX HR
    have hXs : (u8s (chk64 xs bn)).toArray.size = 64 := by rw [List.size_toArray, u8s_len, hX]
    have h1X : (u8s (chk64 xs bn)).toArray.all (·.oneCell') = true := all_oneCell_toArray (many_u8 _)
    have hbn : bn < nb := by omega
    clear h h' e1 h0
    go_enter Try.func45, Try.ntmps45
    go_wp2_with (first
      | (at_lookup; refine wpList_lookup_own_ok_int _ rfl _ _ 102 rfl 2 3 .i64 (Maps.int_keyed Try.underlying2) Try.underlying102 Try.underlying3 (by simp [zeroValue]; rfl) M ws.length D rfl HM.out _ _ rfl (Maps.keyOf_int_mk Try.underlying2 hb) ?_; intro c hat hwc; skip)
      | (refine wpList_load_mid rfl 60 _ rfl g (bn * 64) rfl (u8s (chk64 xs bn)) _ rng Try.underlying60 rfl (by rw [u8s_len, hX]; exact infoBB) ?_)
      | (refine wpList_store_row rfl 60 _ _ rfl w.heap.size (u8s (chk64 xs bn)).toArray rfl rfl 60 _ g3 (by rw [hXs]; exact infoBB) (by rw [hXs]; rfl) h1X ?_))
    refine bodyPost_ret (v := .agg (u8s (chk64 xs bn)).toArray) (results_cell_row Try.results45 _ _ w.heap.size 60 (u8s (chk64 xs bn)).toArray (0, 0) _ rfl (setRow_heap W0 w.heap.size _ _ 60 _ g3) Try.underlying60 rfl (by rw [hXs]; exact infoBB)) rfl ?_
    exact ⟨by rw [HR.out], below_setRow hb0 (Nat.le_refl _) _⟩
  · obtain ⟨i, x, hi, hx, ha, hl⟩ := h.young.yes b hb hh
    have HR : Hid (readL xs ws b = x.2) := readL_yes hi hx hl
    have hil : i < ws.length := (List.getElem?_eq_some_iff.1 hi).1
    have hxm : x ∈ ws := List.mem_of_getElem? hi
    have hX : x.2.length = 64 := (h.lens x hxm).1
    obtain ⟨g, rfl, hcap, rng0⟩ := owns_range h'.wr (i * 65) 65 (by omega)
    rw [cws_at (fun y hy => (h.lens y hy).1) hi] at rng0
    have rng : W0.rangeAt g (i * 65 + 1) (u8s x.2) := fun j v hv => by
      have := rng0 (j + 1) v (by simpa [cwL] using hv)
      rwa [show i * 65 + (j + 1) = i * 65 + 1 + j by omega] at this
    have hXs : (u8s x.2).toArray.size = 64 := by rw [List.size_toArray, u8s_len, hX]
    have h1X : (u8s x.2).toArray.all (·.oneCell') = true := all_oneCell_toArray (many_u8 _)
    have hil' : (i : Int) < (ws.length : Int) := by omega
    have HA : Hid (∀ z, D.atKey (.int .i64 b) z = .lit (.int .i64 (i : Int))) := ha
    clear h h' rng0 hi hl hx hxm ha
    go_enter Try.func45, Try.ntmps45
    go_wp2_with (first
      | (at_lookup; refine wpList_lookup_own_ok_int _ rfl _ _ 102 rfl 2 3 .i64 (Maps.int_keyed Try.underlying2) Try.underlying102 Try.underlying3 (by simp [zeroValue]; rfl) M ws.length D rfl HM.out _ _ rfl (Maps.keyOf_int_mk Try.underlying2 hb) ?_; intro c hat hwc; obtain rfl : c = (i : Int) := (by rw [HA.out] at hat; injection hat with hat; injection hat with _ hat; exact hat.symm))
      | (refine wpList_load_mid rfl 60 _ rfl g (i * 65 + 1) rfl (u8s x.2) _ rng Try.underlying60 rfl (by rw [u8s_len, hX]; exact infoBB) ?_)
      | (refine wpList_store_row rfl 60 _ _ rfl w.heap.size (u8s x.2).toArray rfl rfl 60 _ g3 (by rw [hXs]; exact infoBB) (by rw [hXs]; rfl) h1X ?_))
    refine bodyPost_ret (v := .agg (u8s x.2).toArray) (results_cell_row Try.results45 _ _ w.heap.size 60 (u8s x.2).toArray (0, 0) _ rfl (setRow_heap W0 w.heap.size _ _ 60 _ g3) Try.underlying60 rfl (by rw [hXs]; exact infoBB)) rfl ?_
    exact ⟨by rw [HR.out], below_setRow hb0 (Nat.le_refl _) _⟩
end Go.Proofs.Ytkkammbfomiofaa
