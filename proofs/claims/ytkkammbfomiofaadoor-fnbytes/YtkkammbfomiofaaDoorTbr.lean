/-
  A table's bytes are read back as that table.
-/
import Derived.Test.YtkkammbfomiofaaDoorGd
import Derived.Test.YtkkammbfomiofaaDoorTrm
namespace Go.Proofs.YtkkammbfomiofaaDoor
open Go.RowKit
set_option linter.unusedSimpArgs false
set_option linter.unusedVariables false

theorem eBytes_at (es : List (Int × Bool)) (i : Nat) (h : i < es.length) : eBytes es = eBytes (es.take i) ++ (beB (eNum (eA es i) (eI es i)) 2 ++ eBytes (es.drop (i + 1))) := by
  conv => lhs; rw [← List.take_append_drop (i + 1) es]
  have e : eBytes (es.take (i + 1) ++ es.drop (i + 1)) = eBytes (es.take (i + 1)) ++ eBytes (es.drop (i + 1)) := by unfold eBytes; exact List.flatMap_append
  rw [e, eBytes_succ es i h, List.append_assoc]
theorem eAll_at {es : List (Int × Bool)} (hv : eAll es = true) (i : Nat) (h : i < es.length) : veB (eA es i) (eI es i) = true := by
  cases hb : veB (eA es i) (eI es i)
  · rw [eAll_no es i h hb] at hv; cases hv
  · rfl
theorem entI_at {es : List (Int × Bool)} (hv : eAll es = true) (i : Nat) (h : i < es.length) : entI (eBytes es) i = (eA es i, eI es i) := by
  have hb := veB_bounds (eAll_at hv i h)
  have e2 : ent2 ((eBytes es).drop (2 * i)) = eNum (eA es i) (eI es i) := by
    have hn := eNum_bounds (b := eI es i) hb.1 hb.2
    unfold ent2
    rw [eBytes_at es i h, List.drop_left' (by rw [eBytes_len, List.length_take]; omega), List.take_left' (beB_len 2 _)]
    exact numI_beB 2 _ hn.1 (by omega)
  unfold entI
  rw [e2]
  unfold eNum
  cases eI es i
  · simp only [Bool.false_eq_true, if_false, Prod.mk.injEq, decide_eq_false_iff_not]; omega
  · simp only [if_true, Prod.mk.injEq, decide_eq_true_eq]; omega
theorem tab_round {es : List (Int × Bool)} (hl : es.length ≤ 1024) (hv : eAll es = true) : tabB (eBytes es) = true ∧ tabE (eBytes es) = es := by
  have hlen := eBytes_len es
  have hB : tabB (eBytes es) = true := tab_good (by omega) es.length (by omega) (fun i hi => by unfold okI; rw [entI_at hv i hi]; exact eAll_at hv i hi)
  refine ⟨hB, ?_⟩
  unfold tabE
  rw [if_pos hB]
  unfold ents
  refine List.ext_getElem (by simp; omega) fun j h1 h2 => ?_
  rw [List.getElem_map, List.getElem_range, entI_at hv j h2, e_at es j h2]
end Go.Proofs.YtkkammbfomiofaaDoor
