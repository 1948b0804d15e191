/-
  Dcm, Dcr.
-/
import Derived.Test.YtkkammbfomiofaaDoorDcs
import Derived.Test.YtkkammbfomiofaaDoorDci
import Derived.Test.YtkkammbfomiofaaDoorTrm
/-
  The program's and the model's DecodeInode answer the same.
-/
namespace Go.Proofs.YtkkammbfomiofaaDoor
open Go.RowKit
set_option linter.unusedSimpArgs false
set_option linter.unusedVariables false

def dN (xs : List Int) : ByteArray := if decI xs = true then inN xs else ⟨#[]⟩
def dZ (xs : List Int) : Int := if decI xs = true then inZ xs else 0
def dL (xs : List Int) : List Int := if decI xs = true then inL xs (inK xs) else []
theorem decI_yes {xs : List Int} (h : decI xs = true) : xs.length = 64 ∧ inoB (inN xs) (inZ xs) (inL xs (inK xs)) = true ∧ xs = inoL (inN xs) (inZ xs) (inL xs (inK xs)) := by
  unfold decI at h
  simp only [Bool.and_eq_true, decide_eq_true_eq] at h
  exact ⟨h.1, h.2.1, h.2.2⟩
theorem inoB_yes {N : ByteArray} {z : Int} {l : List Int} (h : inoB N z l = true) : nameB N = true ∧ 0 ≤ z ∧ z ≤ 1408 := by
  unfold inoB at h
  simp only [Bool.and_eq_true, decide_eq_true_eq] at h
  exact ⟨h.1, h.2.1.1, h.2.1.2⟩
theorem dL_len (xs : List Int) : (dL xs).length ≤ 22 := by
  unfold dL
  split
  · rename_i h
    obtain ⟨_, h2, _⟩ := decI_yes h
    obtain ⟨_, z0, z1⟩ := inoB_yes h2
    rw [inL_len]; unfold inK; omega
  · simp
theorem nmL_strOf {l : List Int} (h : Byt l) : nmL (strOf l) = l := by
  unfold nmL strOf
  simp only [List.map_map]
  conv => rhs; rw [← List.map_id l]
  refine List.map_congr_left fun x hx => ?_
  exact toU_nat (h x hx)
theorem strOf_nmL (N : ByteArray) : strOf (nmL N) = N := by
  unfold nmL strOf
  cases N with
  | mk d =>
    congr 1
    rw [List.map_map]
    have e : d.toList.map (toU ∘ fun c => (c.toNat : Int)) = d.toList := by
      conv => rhs; rw [← List.map_id d.toList]
      refine List.map_congr_left fun x hx => ?_
      simp [toU]
    rw [e]
theorem padL_at (l : List Int) (n i : Nat) : (padL l n)[i]?.getD 0 = l[i]?.getD 0 := by
  unfold padL
  by_cases h : i < l.length
  · rw [List.getElem?_append_left h]
  · rw [List.getElem?_append_right (by omega), List.getElem?_eq_none (l := l) (by omega)]
    rw [List.getElem?_replicate]
    split <;> rfl
/-- The name's bytes in the block. -/
theorem inoL_at (N : ByteArray) (z : Int) (l : List Int) (hN : N.size ≤ 16) (i : Nat) (hi : i < 16) : (inoL N z l)[i]?.getD 0 = (nmL N)[i]?.getD 0 := by
  unfold inoL
  rw [padL_at, List.append_assoc, List.getElem?_append_left (by rw [padL_len _ _ (by rw [nmL_len]; exact hN)]; exact hi), padL_at]
theorem trim_at {xs : List Int} (hx : Byt xs) (h64 : xs.length = 64) {i : Nat} (hi : i ≤ 16) (hnz : nzL xs i) (hz : ∀ j, i ≤ j → j < 16 → xs[j]?.getD 0 = 0) : inN xs = strOf (xs.take i) := by
  unfold inN strOf
  have e : Lib.trimRightB ((xs.take 16).map toU) 0 = ((xs.take 16).map toU).take i := by
    refine Lib.trimRightB_take _ _ _ (by simp [h64]; omega) (fun j b hj hb => ?_) (fun b h0 hb => ?_)
    · rw [List.getElem?_map, List.getElem?_take] at hb
      split at hb
      · rename_i hj16
        have := hz j hj hj16
        rw [List.getElem?_eq_getElem (by omega)] at hb this
        simp only [Option.map_some, Option.some.injEq, Option.getD_some] at hb this
        rw [← hb, this]; rfl
      · cases hb
    · rw [List.getElem?_map, List.getElem?_take, if_pos (by omega)] at hb
      have h1 := hnz (i - 1) (by omega)
      rw [List.getElem?_eq_getElem (by omega)] at hb h1
      simp only [Option.map_some, Option.some.injEq, Option.getD_some] at hb h1
      intro hb0
      have h2 := toU_nat (hx _ (List.getElem_mem (by omega : i - 1 < xs.length)))
      rw [hb, hb0] at h2
      exact h1 h2.symm
  rw [e, ← List.map_take, List.take_take, Nat.min_eq_left hi]
theorem enc_some {N : ByteArray} {z : Int} {l xs : List Int} (h : encI N z l = xs) (h64 : xs.length = 64) : inoB N z l = true ∧ inoL N z l = xs := by
  unfold encI at h
  split at h
  · rename_i h1; exact ⟨h1, h⟩
  · subst h; cases h64
/-- Both take the same blocks, and read the same name. -/
theorem same_name {xs : List Int} (hx : Byt xs) (h64 : xs.length = 64) {i : Nat} (hi : i ≤ 16) (hnz : nzL xs i) (hst : i = 16 ∨ xs[i]?.getD 0 = 0) :
    (decI xs = true ↔ (inZ xs ≤ 1408 ∧ encI (strOf (xs.take i)) (inZ xs) (inL xs (inK xs)) = xs)) ∧ (decI xs = true → inN xs = strOf (xs.take i)) := by
  have hb : Byt (xs.take i) := byt_take hx i
  have back : decI xs = true → inN xs = strOf (xs.take i) := fun h => by
    obtain ⟨_, h2, h3⟩ := decI_yes h
    obtain ⟨hn, _, _⟩ := inoB_yes h2
    generalize inN xs = N at *
    unfold nameB at hn
    simp only [Bool.and_eq_true, decide_eq_true_eq] at hn
    obtain ⟨hall, n1, n2⟩ := hn
    have hat : ∀ j, j < 16 → xs[j]?.getD 0 = (nmL N)[j]?.getD 0 := fun j hj => by
      have := inoL_at N (inZ xs) (inL xs (inK xs)) n2 j hj
      rw [← h3] at this
      exact this
    have hne : ∀ j, j < N.size → (nmL N)[j]?.getD 0 ≠ 0 := fun j hj => by
      unfold nmL
      have hj' : j < N.data.toList.length := by simpa using hj
      rw [List.getElem?_map, List.getElem?_eq_getElem hj']
      have := List.all_eq_true.1 hall _ (List.getElem_mem hj')
      simp only [Option.map_some, Option.getD_some]
      intro e0
      rw [e0] at this
      revert this
      decide
    have hie : i = N.size := by
      rcases Nat.lt_trichotomy i N.size with h | h | h
      · rcases hst with h' | h'
        · omega
        · rw [hat i (by omega)] at h'
          exact absurd h' (hne i h)
      · exact h
      · have h1 := hnz N.size h
        rw [hat _ (by omega), List.getElem?_eq_none (by rw [nmL_len]; omega)] at h1
        exact absurd rfl h1
    have et : xs.take i = nmL N := by
      refine List.ext_getElem (by rw [nmL_len, List.length_take]; omega) fun j h1 h2 => ?_
      rw [nmL_len] at h2
      have := hat j (by omega)
      rw [List.getElem?_eq_getElem (by omega), List.getElem?_eq_getElem (by rw [nmL_len]; omega)] at this
      simp only [Option.getD_some] at this
      rw [List.getElem_take]
      exact this
    rw [et, strOf_nmL]
  refine ⟨⟨fun h => ?_, fun h => ?_⟩, back⟩
  · have e := back h
    obtain ⟨_, h2, h3⟩ := decI_yes h
    obtain ⟨_, _, z1⟩ := inoB_yes h2
    refine ⟨z1, ?_⟩
    rw [← e]
    unfold encI
    rw [if_pos h2]
    exact h3.symm
  · obtain ⟨z1, he⟩ := h
    obtain ⟨q1, q2⟩ := enc_some he h64
    have hl : (xs.take i).length = i := by rw [List.length_take]; omega
    have e : inN xs = strOf (xs.take i) := trim_at hx h64 hi hnz fun j hj hj16 => by
      have := inoL_at (strOf (xs.take i)) (inZ xs) (inL xs (inK xs)) (by rw [strOf_len, hl]; exact hi) j hj16
      rw [q2, nmL_strOf hb, List.getElem?_eq_none (l := xs.take i) (by rw [hl]; exact hj)] at this
      exact this
    unfold decI
    rw [e, q1, q2]
    simp [h64]
/-- What each of the two answers. -/
def RAns (w w' : World) (e : Ending) (xs : List Int) : Prop := Below w.heap.size w w' ∧ ∃ a c, e = .returned (.agg #[.bool (decI xs), .string (dN xs), .int .i64 (dZ xs), .slice a (dL xs).length c]) ∧ Row .i64 (fun g => w.heap.size ≤ g ∧ g < w'.heap.size) w' a (dL xs).length (dL xs)
theorem IAns.r {w w' : World} {e : Ending} {xs : List Int} (h : IAns w w' e xs) : RAns w w' e xs := by
  obtain ⟨hb, ⟨hd, rfl⟩ | ⟨hd, a, c, rfl, ho⟩⟩ := h
  · refine ⟨hb, none, 0, ?_, ?_⟩
    · simp [dN, dZ, dL, hd]
    · simp only [dL, hd]; exact ⟨rfl, .inl rfl⟩
  · obtain ⟨a', c', e', r⟩ := gn_row ho
    injection e' with e1 e2 e3
    subst e1
    refine ⟨hb, a, c, ?_, ?_⟩
    · simp [dN, dZ, dL, hd, inL_len]
    · simp only [dL, hd, if_true, inL_len]; exact r
theorem decodeInode_r (a : Option Addr) (n c : Nat) (xs : List Int) (w : World) (ha : IRow .u8 w a n xs) (hx : Byt xs) (hc : n ≤ c) (hm : c ≤ 9223372036854775807) :
    Calls Tryd.prog 7 #[.slice a n c] w fun e w' => RAns w w' e xs :=
  (decodeInode_any a n c xs w ha hx hc hm).mono fun _ _ h => h.r
end Go.Proofs.YtkkammbfomiofaaDoor

/-
  An inode's block is read back as that inode.
-/
namespace Go.Proofs.YtkkammbfomiofaaDoor
open Go.RowKit
set_option linter.unusedSimpArgs false
set_option linter.unusedVariables false

theorem inoL_split (nm : ByteArray) (z : Int) (xs : List Int) : ∃ r, inoL nm z xs = padL (nmL nm) 16 ++ (beB z 2 ++ (lidL xs ++ List.replicate r 0)) :=
  ⟨64 - (padL (nmL nm) 16 ++ beB z 2 ++ lidL xs).length, by unfold inoL; rw [show padL (padL (nmL nm) 16 ++ beB z 2 ++ lidL xs) 64 = (padL (nmL nm) 16 ++ beB z 2 ++ lidL xs) ++ List.replicate (64 - (padL (nmL nm) 16 ++ beB z 2 ++ lidL xs).length) 0 from rfl]; simp only [List.append_assoc]⟩
theorem inoL_len64 {nm : ByteArray} {z : Int} {xs : List Int} (h1 : nm.size ≤ 16) (h2 : xs.length ≤ 22) : (inoL nm z xs).length = 64 := by
  unfold inoL
  refine padL_len _ _ ?_
  rw [List.length_append, List.length_append, padL_len _ _ (by rw [nmL_len]; exact h1), beB_len, lidL_len]
  omega
theorem lidL_append (xs ys : List Int) : lidL (xs ++ ys) = lidL xs ++ lidL ys := by simp [lidL]
theorem lidL_at (xs : List Int) (j : Nat) (hj : j < xs.length) : lidL xs = lidL (xs.take j) ++ (beB (xs[j]?.getD 0) 2 ++ lidL (xs.drop (j + 1))) := by
  conv => lhs; rw [← List.take_append_drop (j + 1) xs, lidL_append, lidL_succ xs j hj]
  rw [List.append_assoc]
theorem ino_round {nm : ByteArray} {z : Int} {xs : List Int} (h : inoB nm z xs = true) :
    inN (inoL nm z xs) = nm ∧ inZ (inoL nm z xs) = z ∧ inK (inoL nm z xs) = xs.length ∧ inL (inoL nm z xs) (inK (inoL nm z xs)) = xs ∧ decI (inoL nm z xs) = true := by
  obtain ⟨⟨n1, n2⟩, ⟨z0, z1⟩, hl, hl2, hv⟩ := ino_facts h
  obtain ⟨hn, _, _⟩ := inoB_yes h
  have h64 := inoL_len64 (z := z) n2 hl2
  have hb : Byt (inoL nm z xs) := by have := encI_byt nm z xs; unfold encI at this; rw [if_pos h] at this; exact this
  have pl : (padL (nmL nm) 16).length = 16 := padL_len _ _ (by rw [nmL_len]; exact n2)
  obtain ⟨r, hr⟩ := inoL_split nm z xs
  have eZ : inZ (inoL nm z xs) = z := by
    unfold inZ
    rw [hr, List.drop_left' pl, List.take_left' (beB_len 2 z)]
    exact beB_val 2 z0 (by omega) (by omega)
  have eK : inK (inoL nm z xs) = xs.length := by unfold inK; rw [eZ]; unfold nblk at hl; omega
  have eL : inL (inoL nm z xs) xs.length = xs := by
    unfold inL
    refine List.ext_getElem (by simp) fun j h1 h2 => ?_
    rw [List.getElem_map, List.getElem_range]
    unfold inLid
    have hx := hv _ (List.getElem_mem h2)
    have e : inoL nm z xs = (padL (nmL nm) 16 ++ (beB z 2 ++ lidL (xs.take j))) ++ (beB xs[j] 2 ++ (lidL (xs.drop (j + 1)) ++ List.replicate r 0)) := by
      rw [hr, lidL_at xs j h2, List.getElem?_eq_getElem h2]
      simp only [List.append_assoc, Option.getD_some]
    rw [e, List.drop_left' (by rw [List.length_append, List.length_append, pl, beB_len, lidL_len, List.length_take]; omega), List.take_left' (beB_len 2 _)]
    exact beB_val 2 (by omega) (by omega) (by omega)
  have eN : inN (inoL nm z xs) = nm := by
    unfold nameB at hn
    simp only [Bool.and_eq_true, decide_eq_true_eq] at hn
    obtain ⟨hall, _, _⟩ := hn
    have hne : ∀ j, j < nm.size → (nmL nm)[j]?.getD 0 ≠ 0 := fun j hj => by
      unfold nmL
      have hj' : j < nm.data.toList.length := by simpa using hj
      rw [List.getElem?_map, List.getElem?_eq_getElem hj']
      have := List.all_eq_true.1 hall _ (List.getElem_mem hj')
      simp only [Option.map_some, Option.getD_some]
      intro e0
      rw [e0] at this
      revert this
      decide
    have e := trim_at hb h64 n2 (fun j hj => by rw [inoL_at _ _ _ n2 j (by omega)]; exact hne j hj) (fun j hj hj16 => by
      rw [inoL_at _ _ _ n2 j hj16, List.getElem?_eq_none (by rw [nmL_len]; omega)]; rfl)
    rw [e]
    have et : (inoL nm z xs).take nm.size = nmL nm := by
      rw [hr]
      unfold padL
      rw [List.append_assoc]
      exact List.take_left' (nmL_len nm)
    rw [et, strOf_nmL]
  refine ⟨eN, eZ, eK, by rw [eK]; exact eL, ?_⟩
  unfold decI
  rw [eN, eZ, eK, eL, h64, h]
  simp
end Go.Proofs.YtkkammbfomiofaaDoor
