/-
  Torn headers: bytes alone.
-/
import Derived.Test.YtkkammbfomiofaaDoorGc
import Derived.Test.YtkkammbfomiofaaDoorDrh
namespace Go.Proofs.YtkkammbfomiofaaDoor
open Go.RowKit
set_option linter.unusedSimpArgs false
set_option linter.unusedVariables false

theorem numI_snoc (l : List Int) (x : Int) : numI (l ++ [x]) = numI l * 256 + x := by simp [numI]
theorem numI_beB (n : Nat) : ∀ v : Int, 0 ≤ v → v < 256 ^ n → numI (beB v n) = v := by
  induction n with
  | zero => intro v h0 h1; simp at h1; simp [beB, numI]; omega
  | succ n ih =>
    intro v h0 h1
    have h2 : v / 256 < 256 ^ n := Int.ediv_lt_of_lt_mul (by omega) (by rw [Int.pow_succ] at h1; exact h1)
    rw [beB, numI_snoc, ih (v / 256) (by omega) h2]
    omega
theorem hdrL_take (s p q : Int) : (hdrL s p q).take 8 = beB s 8 := by
  unfold hdrL; rw [List.take_append_of_le_length (by rw [beB_len]; omega)]; exact List.take_of_length_le (by rw [beB_len]; omega)
theorem hdrL_drop8 (s p q : Int) : (hdrL s p q).drop 8 = beB p 2 ++ (beB q 2 ++ (List.replicate 44 0 ++ beB s 8)) := by
  unfold hdrL; rw [List.drop_left' (beB_len 8 s)]
theorem hdrL_p (s p q : Int) : ((hdrL s p q).drop 8).take 2 = beB p 2 := by
  rw [hdrL_drop8, List.take_left' (beB_len 2 p)]
theorem hdrL_drop10 (s p q : Int) : (hdrL s p q).drop 10 = beB q 2 ++ (List.replicate 44 0 ++ beB s 8) := by
  rw [show 10 = 8 + 2 from rfl, ← List.drop_drop, hdrL_drop8, List.drop_left' (beB_len 2 p)]
theorem hdrL_q (s p q : Int) : ((hdrL s p q).drop 10).take 2 = beB q 2 := by
  rw [hdrL_drop10, List.take_left' (beB_len 2 q)]
theorem hdrL_last (s p q : Int) : (hdrL s p q).drop 56 = beB s 8 := by
  rw [show 56 = 10 + (2 + 44) from rfl, ← List.drop_drop, hdrL_drop10, ← List.drop_drop, List.drop_left' (beB_len 2 q), List.drop_left' (by simp)]
theorem hdrB_parts {s p q : Int} (h : hdrB s p q = true) : (1 ≤ s ∧ s ≤ 1099511627776) ∧ (0 ≤ p ∧ p ≤ 65535) ∧ 0 ≤ q ∧ q ≤ 65535 := by
  simp [hdrB, partB] at h; omega
theorem beB_val {v : Int} (n : Nat) (h0 : 0 ≤ v) (h1 : v < 256 ^ n) (h2 : v ≤ 4611686018427387904) : wrap64 (numI (beB v n)) = v := by
  rw [numI_beB n v h0 h1]; unfold wrap64; omega
theorem hS_hdr {s p q : Int} (h : hdrB s p q = true) : hS (hdrL s p q) = s := by
  have := hdrB_parts h
  unfold hS; rw [hdrL_take]; exact beB_val 8 (by omega) (by simp; omega) (by omega)
theorem hP_hdr {s p q : Int} (h : hdrB s p q = true) : hP (hdrL s p q) = p := by
  have := hdrB_parts h
  unfold hP; rw [hdrL_p]; exact beB_val 2 (by omega) (by simp; omega) (by omega)
theorem hQ_hdr {s p q : Int} (h : hdrB s p q = true) : hQ (hdrL s p q) = q := by
  have := hdrB_parts h
  unfold hQ; rw [hdrL_q]; exact beB_val 2 (by omega) (by simp; omega) (by omega)
theorem decV_hdr {s p q : Int} (h : hdrB s p q = true) : decV (hdrL s p q) = #[.bool true, .int .i64 s, .int .i64 p, .int .i64 q] := by
  have hd : decB (hdrL s p q) = true := by
    rw [decB_good (by rw [hS_hdr h, hP_hdr h, hQ_hdr h]; exact h) (hdrL_len _ _ _), hS_hdr h, hP_hdr h, hQ_hdr h]; simp
  rw [decV_yes hd, hS_hdr h, hP_hdr h, hQ_hdr h]

/-- The first bytes of the one, the others of the other. -/
def mixL (A B : List Int) (c : Nat) : List Int := B.take c ++ A.drop c
theorem mix_len {A B : List Int} {c : Nat} (hA : A.length = 64) (hB : B.length = 64) (hc : c ≤ 64) : (mixL A B c).length = 64 := by simp [mixL, hA, hB]; omega
theorem mix_drop {A B : List Int} {c j : Nat} (hB : B.length = 64) (hc : c ≤ 64) (h : c ≤ j) : (mixL A B c).drop j = A.drop j := by
  unfold mixL
  rw [List.drop_append, List.drop_eq_nil_of_le (by simp; omega), List.nil_append, List.drop_drop]
  congr 1
  simp; omega
theorem mix_take {A B : List Int} {c j : Nat} (hB : B.length = 64) (hc : c ≤ 64) (h : j ≤ c) : (mixL A B c).take j = B.take j := by
  unfold mixL
  rw [List.take_append_of_le_length (by simp; omega), List.take_take, Nat.min_eq_left h]
theorem mix_byt {A B : List Int} {c : Nat} (hA : Byt A) (hB : Byt B) : Byt (mixL A B c) := by
  intro x hx
  simp only [mixL, List.mem_append] at hx
  rcases hx with hx | hx
  · exact hB x (List.mem_of_mem_take hx)
  · exact hA x (List.mem_of_mem_drop hx)

/-- What is read of a torn block: nothing, or one of the two. -/
theorem torn {s p q s' p' q' : Int} (h : hdrB s p q = true) (h' : hdrB s' p' q' = true) (hne : s ≠ s') (c : Nat) (hc : c ≤ 64) (hd : decB (mixL (hdrL s p q) (hdrL s' p' q') c) = true) :
    (hS (mixL (hdrL s p q) (hdrL s' p' q') c) = s ∧ hP (mixL (hdrL s p q) (hdrL s' p' q') c) = p ∧ hQ (mixL (hdrL s p q) (hdrL s' p' q') c) = q) ∨ (hS (mixL (hdrL s p q) (hdrL s' p' q') c) = s' ∧ hP (mixL (hdrL s p q) (hdrL s' p' q') c) = p' ∧ hQ (mixL (hdrL s p q) (hdrL s' p' q') c) = q') := by
  have lA := hdrL_len s p q
  have lB := hdrL_len s' p' q'
  have key : hdrB (hS (mixL (hdrL s p q) (hdrL s' p' q') c)) (hP (mixL (hdrL s p q) (hdrL s' p' q') c)) (hQ (mixL (hdrL s p q) (hdrL s' p' q') c)) = true := by
    cases hv : hdrB (hS (mixL (hdrL s p q) (hdrL s' p' q') c)) (hP (mixL (hdrL s p q) (hdrL s' p' q') c)) (hQ (mixL (hdrL s p q) (hdrL s' p' q') c))
    · rw [decB_bad hv] at hd; cases hd
    · rfl
  have eM : mixL (hdrL s p q) (hdrL s' p' q') c = hdrL (hS (mixL (hdrL s p q) (hdrL s' p' q') c)) (hP (mixL (hdrL s p q) (hdrL s' p' q') c)) (hQ (mixL (hdrL s p q) (hdrL s' p' q') c)) := by
    have := hd
    rw [decB_good key (mix_len lA lB hc)] at this
    simpa using this
  have lastS : hS (mixL (hdrL s p q) (hdrL s' p' q') c) = wrap64 (numI ((mixL (hdrL s p q) (hdrL s' p' q') c).drop 56)) := by
    have k2 := hdrB_parts key
    have e2 : (mixL (hdrL s p q) (hdrL s' p' q') c).drop 56 = beB (hS (mixL (hdrL s p q) (hdrL s' p' q') c)) 8 := by
      generalize hS (mixL (hdrL s p q) (hdrL s' p' q') c) = S at *
      generalize hP (mixL (hdrL s p q) (hdrL s' p' q') c) = P at *
      generalize hQ (mixL (hdrL s p q) (hdrL s' p' q') c) = Q at *
      rw [eM, hdrL_last]
    rw [e2]
    exact (beB_val 8 (by omega) (by simp; omega) (by omega)).symm
  have kA := hdrB_parts h
  have kB := hdrB_parts h'
  by_cases c8 : c ≤ 8
  · left
    have d8 := mix_drop (A := hdrL s p q) lB hc c8
    have d10 := mix_drop (A := hdrL s p q) (j := 10) lB hc (by omega)
    have d56 := mix_drop (A := hdrL s p q) (j := 56) lB hc (by omega)
    refine ⟨?_, ?_, ?_⟩
    · rw [lastS, d56, hdrL_last]; exact beB_val 8 (by omega) (by simp; omega) (by omega)
    · unfold hP; rw [d8, hdrL_p]; exact beB_val 2 (by omega) (by simp; omega) (by omega)
    · unfold hQ; rw [d10, hdrL_q]; exact beB_val 2 (by omega) (by simp; omega) (by omega)
  have t8 := mix_take (A := hdrL s p q) (j := 8) lB hc (by omega)
  have eS : hS (mixL (hdrL s p q) (hdrL s' p' q') c) = s' := by
    unfold hS; rw [t8, hdrL_take]; exact beB_val 8 (by omega) (by simp; omega) (by omega)
  by_cases c56 : c ≤ 56
  · have d56 := mix_drop (A := hdrL s p q) (j := 56) lB hc c56
    have : hS (mixL (hdrL s p q) (hdrL s' p' q') c) = s := by
      rw [lastS, d56, hdrL_last]; exact beB_val 8 (by omega) (by simp; omega) (by omega)
    exact absurd (this.symm.trans eS) hne
  · right
    have t12 := mix_take (A := hdrL s p q) (j := 12) lB hc (by omega)
    have part : ∀ (a b : Nat), a + b ≤ 12 → ((mixL (hdrL s p q) (hdrL s' p' q') c).drop a).take b = ((hdrL s' p' q').drop a).take b := fun a b hab => by
      have h1 : ∀ l : List Int, ((l.take 12).drop a).take b = (l.drop a).take b := fun l => by
        rw [List.drop_take, List.take_take, Nat.min_eq_left (by omega)]
      rw [← h1 (mixL _ _ c), t12, h1]
    refine ⟨eS, ?_, ?_⟩
    · unfold hP; rw [part 8 2 (by omega), hdrL_p]; exact beB_val 2 (by omega) (by simp; omega) (by omega)
    · unfold hQ; rw [part 10 2 (by omega), hdrL_q]; exact beB_val 2 (by omega) (by simp; omega) (by omega)
end Go.Proofs.YtkkammbfomiofaaDoor
