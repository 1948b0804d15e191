/-
  markByteS and heldByteS.
-/
import Derived.Test.YtpbfileekedpgaaFill
namespace Go.Proofs.Ytpbfileekedpgaa
open Go.RowKit

/-- The marks of n bytes from k on. -/
def marks (k : Int) (n : Nat) : List Int := (List.range n).map fun i : Nat => (k + (i : Int)) % 256
theorem marks_len (k : Int) (n : Nat) : (marks k n).length = n := by simp [marks]
theorem marks_at (k : Int) (n i : Nat) (h : i < n) : (marks k n)[i]?.getD 0 = (k + (i : Int)) % 256 := by simp [marks, h]

theorem step_mark (k : Int) (xs : List Int) (j i : Nat) :
    (if i < j + 1 then (k + (i : Int)) % 256 else xs[i]?.getD 0) = if i = j then (k + (j : Int)) % 256 else if i < j then (k + (i : Int)) % 256 else xs[i]?.getD 0 := by
  by_cases e : i = j
  · subst e; simp
  · rw [if_neg e]; by_cases h : i < j
    · rw [if_pos h, if_pos (by omega)]
    · rw [if_neg h, if_neg (by omega)]

end Go.Proofs.Ytpbfileekedpgaa
