/-
  FnDisk: lists alone.
-/
import Derived.Test.YtkkammbfomiofaaCrd
import Derived.Test.YtkkammbfomiofaaDdm
namespace Go.Proofs.Ytkkammbfomiofaa
open Go.RowKit
set_option linter.unusedSimpArgs false
set_option linter.unusedVariables false

theorem dwB_parts {n : Nat} {val : List (Int × List Int)} {b : Int} {l : Nat} (h : dwB n val b l = true) : validB n val = true ∧ val.length ≠ 400 ∧ 0 ≤ b ∧ b < (n : Int) / 64 ∧ l = 64 := by
  simp only [dwB, Bool.and_eq_true, decide_eq_true_eq] at h
  exact h
theorem valid_more {n : Nat} {val : List (Int × List Int)} {b : Int} {X : List Int} (h : dwB n val b X.length = true) : validB n (val ++ [(b, X)]) = true := by
  obtain ⟨h1, h2, h3, h4, h5⟩ := dwB_parts h
  obtain ⟨g1, g2, g3, g4, g5⟩ := (validB_iff n val).1 h1
  refine (validB_iff _ _).2 ⟨g1, g2, g3, by simp; omega, fun x hx => ?_⟩
  rcases List.mem_append.1 hx with hx | hx
  · exact g5 x hx
  · simp only [List.mem_singleton] at hx
    subst hx
    exact ⟨h3, by simp only; omega, h5⟩
theorem valid_nil {n : Nat} {val : List (Int × List Int)} (h : validB n val = true) : validB n [] = true := by
  obtain ⟨g1, g2, g3, g4, g5⟩ := (validB_iff n val).1 h
  exact (validB_iff _ _).2 ⟨g1, g2, g3, by simp, fun x hx => by cases hx⟩
theorem take_drop_get (xs : List Int) (o i : Nat) : ((xs.drop o).take 64)[i]? = if i < 64 then xs[o + i]? else none := by
  rw [List.getElem?_take]; split <;> simp [List.getElem?_drop]
/-- What was written is read. -/
theorem setL_read (xs : List Int) (b : Int) (X : List Int) (hX : X.length = 64) (h : b.toNat * 64 + 64 ≤ xs.length) : ((setL xs (b, X) 64).drop (64 * b.toNat)).take 64 = X := by
  refine List.ext_getElem? fun i => ?_
  rw [take_drop_get]
  unfold setL
  simp only
  rw [List.take_of_length_le (by omega), spl_get _ _ _ (by omega)]
  by_cases hi : i < 64
  · rw [if_pos hi, if_neg (by omega), if_pos (by omega)]
    congr 1
    omega
  · rw [if_neg hi, List.getElem?_eq_none (by omega)]
/-- Another block stays. -/
theorem setL_other (xs : List Int) (x : Int × List Int) (c : Nat) (o : Nat) (hX : x.2.length = 64) (hc : c ≤ 64) (h : x.1.toNat * 64 + 64 ≤ xs.length) (ho : o ≠ x.1.toNat) : ((setL xs x c).drop (64 * o)).take 64 = (xs.drop (64 * o)).take 64 := by
  refine List.ext_getElem? fun i => ?_
  rw [take_drop_get, take_drop_get]
  by_cases hi : i < 64
  · rw [if_pos hi, if_pos hi]
    unfold setL
    have hl : (x.2.take c).length = c := by simp; omega
    rw [spl_get _ _ _ (by omega), hl]
    by_cases h1 : 64 * o + i < x.1.toNat * 64
    · rw [if_pos h1]
    · rw [if_neg h1, if_neg (by omega)]
  · rw [if_neg hi, if_neg hi]
theorem stl_other {n : Nat} (o : Nat) : ∀ (l : List ((Int × List Int) × Nat)) (xs : List Int), xs.length = n → (∀ y ∈ l, y.1.1.toNat * 64 + 64 ≤ n ∧ y.2 ≤ 64 ∧ y.1.2.length = 64 ∧ o ≠ y.1.1.toNat) → ((stl xs l).drop (64 * o)).take 64 = (xs.drop (64 * o)).take 64
  | [], xs, _, _ => rfl
  | y :: l, xs, hn, h => by
    obtain ⟨h1, h2, h3, h4⟩ := h y (by simp)
    have e : stl xs (y :: l) = stl (setL xs y.1 y.2) l := rfl
    rw [e, stl_other o l _ (by rw [setL_len _ _ _ (by omega) h2]; exact hn) (fun z hz => h z (by simp [hz])), setL_other _ _ _ _ h3 h2 (by omega) h4]
theorem ok_bound {n : Nat} {val : List (Int × List Int)} (h : validB n val = true) {x : Int × List Int} (hx : x ∈ val) : x.1.toNat * 64 + 64 ≤ n ∧ x.2.length = 64 ∧ 0 ≤ x.1 := by
  obtain ⟨g1, g2, g3, g4, g5⟩ := (validB_iff n val).1 h
  obtain ⟨k1, k2, k3⟩ := g5 x hx
  refine ⟨by omega, k3, k1⟩
theorem stlAll_snoc (xs : List Int) (val : List (Int × List Int)) (x : Int × List Int) : stlAll xs (val ++ [x]) = setL (stlAll xs val) x 64 := by
  unfold stlAll; rw [List.map_append]; exact stl_snoc _ _ _
theorem readL_nil (xs : List Int) (b : Int) : readL xs [] b = (xs.drop (64 * b.toNat)).take 64 := rfl
theorem readL_snoc (xs : List Int) (val : List (Int × List Int)) (b : Int) (X : List Int) : readL xs (val ++ [(b, X)]) b = X := by
  unfold readL; rw [List.foldl_append]; simp
theorem ckL_mem {val : List (Int × List Int)} {ch : List Int} {y : (Int × List Int) × Nat} (h : y ∈ ckL val ch) : y.1 ∈ val ∧ y.2 ≤ 64 := by
  unfold ckL at h
  obtain ⟨k, hk, e⟩ := List.mem_mapIdx.1 h
  subst e
  exact ⟨List.getElem_mem hk, kp_le _ _⟩
/-- The disk behind a barrier and a crash reads what was written. -/
theorem barrier_read {n : Nat} {xs : List Int} {val : List (Int × List Int)} {b : Int} {X : List Int} {l : Nat} {ch : List Int} (hx : xs.length = n) (h : dwB n val b X.length = true) (hl : l ≤ 400) :
    dbX n xs (val ++ [(b, X)]) = stlAll xs (val ++ [(b, X)]) ∧ (stlAll xs (val ++ [(b, X)])).length = n ∧ dcX n (stlAll xs (val ++ [(b, X)])) [] l ch = stlAll xs (val ++ [(b, X)]) ∧ dreadL n (stlAll xs (val ++ [(b, X)])) [] b = X := by
  have hv := valid_more h
  have hv0 := valid_nil hv
  obtain ⟨h1, h2, h3, h4, h5⟩ := dwB_parts h
  have hL := stlAll_len hx hv
  have hL1 := stlAll_len hx h1
  refine ⟨if_pos hv, hL, ?_, ?_⟩
  · unfold dcX; rw [if_pos ⟨hv0, hl⟩]; rfl
  · unfold dreadL; rw [if_pos ⟨hv0, h3, h4⟩, readL_nil, stlAll_snoc]
    exact setL_read _ _ _ h5 (by omega)
theorem write_read {n : Nat} {xs : List Int} {val : List (Int × List Int)} {b : Int} {X : List Int} (h : dwB n val b X.length = true) : dreadL n xs (val ++ [(b, X)]) b = X := by
  have hv := valid_more h
  obtain ⟨h1, h2, h3, h4, h5⟩ := dwB_parts h
  unfold dreadL; rw [if_pos ⟨hv, h3, h4⟩, readL_snoc]
theorem crash_len {n : Nat} {xs : List Int} {val : List (Int × List Int)} {b : Int} {X : List Int} {l : Nat} {ch : List Int} (hx : xs.length = n) (h : dwB n val b X.length = true) (hl : l ≤ 400) : (dcX n xs (val ++ [(b, X)]) l ch).length = n := by
  have hv := valid_more h
  unfold dcX; rw [if_pos ⟨hv, hl⟩]
  refine stl_len _ _ hx (fun y hy => ?_)
  obtain ⟨k1, k2⟩ := ckL_mem hy
  exact ⟨(ok_bound hv k1).1, k2⟩
/-- A block with nothing pending is read as before. -/
theorem crash_other {n : Nat} {xs : List Int} {val : List (Int × List Int)} {b : Int} {X : List Int} {l : Nat} {ch : List Int} {o : Int} (hx : xs.length = n) (h : dwB n val b X.length = true) (hl : l ≤ 400) (h0 : 0 ≤ o) (ho : o < (n : Int) / 64) (hb : o ≠ b) (hc : ∀ x ∈ val, x.1 ≠ o) :
    dreadL n (dcX n xs (val ++ [(b, X)]) l ch) [] o = dreadL n xs val o := by
  have hv := valid_more h
  obtain ⟨h1, h2, h3, h4, h5⟩ := dwB_parts h
  have hv0 := valid_nil hv
  unfold dreadL
  rw [if_pos ⟨hv0, h0, ho⟩, if_pos ⟨h1, h0, ho⟩, readL_nil, readL_no hc]
  unfold dcX; rw [if_pos ⟨hv, hl⟩]
  refine stl_other _ _ _ hx (fun y hy => ?_)
  obtain ⟨k1, k2⟩ := ckL_mem hy
  obtain ⟨m1, m2, m3⟩ := ok_bound hv k1
  refine ⟨m1, k2, m2, fun e => ?_⟩
  rcases List.mem_append.1 k1 with k | k
  · exact hc _ k (by omega)
  · simp only [List.mem_singleton] at k
    rw [k] at m3 e
    simp only at m3 e
    omega
theorem dreadL_none (b : Int) : dreadL 0 [] [] b = [] := by
  unfold dreadL
  rw [if_neg]
  rintro ⟨h, _⟩
  obtain ⟨g1, g2, _⟩ := (validB_iff 0 []).1 h
  omega
end Go.Proofs.Ytkkammbfomiofaa
