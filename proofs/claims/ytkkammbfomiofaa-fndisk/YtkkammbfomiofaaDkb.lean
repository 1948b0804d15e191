/-
  FnDisk: what is drawn are bytes; the blocks with nothing pending.
-/
import Derived.Test.YtkkammbfomiofaaDdw
namespace Go.Proofs.Ytkkammbfomiofaa
open Go.RowKit
set_option linter.unusedSimpArgs false
set_option linter.unusedVariables false

def DV.byt (D : DV) : Prop := BytD D.1 ∧ ∀ x ∈ D.2, BytD x.2
theorem byt_rep (n : Nat) {v : Int} (h : 0 ≤ v ∧ v ≤ 255) : BytD (List.replicate n v) := fun x hx => by rw [List.eq_of_mem_replicate hx]; exact h
theorem byt_app {xs ys : List Int} (hx : BytD xs) (hy : BytD ys) : BytD (xs ++ ys) := fun x h => (List.mem_append.1 h).elim (hx x) (hy x)
theorem byt_setL {xs : List Int} {x : Int × List Int} (c : Nat) (hx : BytD xs) (hy : BytD x.2) : BytD (setL xs x c) := by
  unfold setL spl
  exact byt_app (byt_app (fun v hv => hx v (List.mem_of_mem_take hv)) (fun v hv => hy v (List.mem_of_mem_take hv))) (fun v hv => hx v (List.mem_of_mem_drop hv))
theorem byt_stl : ∀ (l : List ((Int × List Int) × Nat)) (xs : List Int), BytD xs → (∀ y ∈ l, BytD y.1.2) → BytD (stl xs l)
  | [], xs, h, _ => h
  | y :: l, xs, h, hl => byt_stl l _ (byt_setL y.2 h (hl y (by simp))) (fun z hz => hl z (by simp [hz]))
theorem byt_nil : BytD [] := fun x hx => by cases hx
theorem DV.write_byt {D : DV} (h : D.byt) (b : Int) {X : List Int} (hX : BytD X) : (D.write b X).byt := by
  unfold DV.write dwX dwW
  constructor
  · show BytD (if _ then _ else _)
    split
    · exact h.1
    · exact byt_nil
  · intro x hx
    simp only at hx
    split at hx
    · rcases List.mem_append.1 hx with hx | hx
      · exact h.2 x hx
      · simp only [List.mem_singleton] at hx; subst hx; exact hX
    · cases hx
theorem DV.barrier_byt {D : DV} (h : D.byt) : D.barrier.byt := by
  unfold DV.barrier dbX
  constructor
  · show BytD (if _ then _ else _)
    split
    · refine byt_stl _ _ h.1 (fun y hy => ?_)
      obtain ⟨x, hx, rfl⟩ := List.mem_map.1 hy
      exact h.2 x hx
    · exact byt_nil
  · intro x hx; cases hx
theorem good1_byt : ∀ (k : Nat) (i : Int) (p : SV × DV), p.2.byt → (good1 k i p).2.byt
  | 0, _, p, h => h
  | k + 1, i, p, h => by
    unfold good1
    refine good1_byt k _ _ ?_
    split
    · exact DV.write_byt h _ (fill_byt _)
    · exact h
theorem good2_byt (n : Int) : ∀ (k : Nat) (p : SV × DV), p.2.byt → (good2 n k p).2.byt
  | 0, p, h => h
  | k + 1, p, h => by unfold good2; exact good2_byt n k _ (DV.write_byt h _ (fill_byt _))
theorem newD_byt (b : Int) : BytD (newD b) := by
  unfold newD; split
  · exact byt_rep _ (by omega)
  · exact byt_nil
theorem good_byt (s : SV) : s.good.2.byt := good2_byt _ _ _ (DV.barrier_byt (good1_byt _ _ _ ⟨newD_byt _, fun x hx => by cases hx⟩))
theorem disk_byt (s : SV) : BytD s.disk.2.1 := by
  have h := good_byt s
  unfold SV.disk bentF
  simp only
  split
  · exact byt_app h.1 (fun x hx => by simp only [List.mem_singleton] at hx; omega)
  · split
    · exact byt_nil
    · split
      · exact byt_rep _ (by omega)
      · split
        · exact h.1
        · split
          · exact h.1
          · split
            · exact h.1
            · exact h.1
theorem drawW_dbyt (xs : List Int) : BytD (drawW xs).1.1 := disk_byt _

/-- Is block k calm, as far as the first j writes tell? -/
def calmB (k b : Int) (val : List (Int × List Int)) (j : Nat) : Bool := (k != b) && (val.take j).all (fun x => !(x.1 == k))
theorem calm_zero (k b : Int) (val : List (Int × List Int)) : calmB k b val 0 = (k != b) := by simp [calmB]
theorem calm_succ {k b : Int} {ws : List WV} {j : Nat} (h : j < ws.length) : calmB k b (wVal ws) (j + 1) = (calmB k b (wVal ws) j && !(wBlk ws j == k)) := by
  unfold calmB
  have hl : j < (wVal ws).length := by rw [wVal_len]; exact h
  rw [List.take_succ_eq_append_getElem hl, List.all_append, Bool.and_assoc]
  congr 1
  have : ((wVal ws)[j]).1 = wBlk ws j := by simp [wVal, wBlk, List.getElem?_eq_getElem h]
  simp [this]
theorem calm_all {k b : Int} {val : List (Int × List Int)} (h : calmB k b val val.length = true) : k ≠ b ∧ ∀ x ∈ val, x.1 ≠ k := by
  unfold calmB at h
  rw [List.take_length] at h
  simpa using h
theorem read_byt {n : Nat} {xs : List Int} {val : List (Int × List Int)} {o : Int} (h : BytD xs) (hc : ∀ x ∈ val, x.1 ≠ o) : BytD (dreadL n xs val o) := by
  unfold dreadL; split
  · rw [readL_no hc]; exact fun x hx => h x (List.mem_of_mem_drop (List.mem_of_mem_take hx))
  · exact byt_nil
end Go.Proofs.Ytkkammbfomiofaa
