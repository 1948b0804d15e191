/-
  FnExactDecodeHeader: the law's walk.
-/
import Derived.Test.YtkkammbfomiofaaDt
namespace Go.Proofs.Ytkkammbfomiofaa
open Go.RowKit
set_option linter.unusedSimpArgs false
set_option linter.unusedVariables false

theorem decodeHeader_impl (a : Option Addr) (n c : Nat) (xs : List Int) (w : World) (ha : IRow .u8 w a n xs) (hx : Byt xs) (hc : n ≤ c) (hm : c ≤ 9223372036854775807) :
    Calls Try.prog 9 #[.slice a n c] w fun e w' => e = .returned (.agg (decV xs)) ∧ Below w.heap.size w w' := by
  by_cases h : n < 12
  · have e := decV_no (decB_len (xs := xs) (by rw [ha.1]; omega))
    rw [e]
    exact decodeHeader_short a n c xs w ha hx h hc hm
  · exact decodeHeader_long a n c xs w ha hx (by omega) hc hm
theorem decV_shape (xs : List Int) : ∃ (b : Bool) (s p q : Int), decV xs = #[.bool b, .int .i64 s, .int .i64 p, .int .i64 q] := by
  cases h : decB xs
  · exact ⟨_, _, _, _, decV_no h⟩
  · exact ⟨_, _, _, _, decV_yes h⟩

end Go.Proofs.Ytkkammbfomiofaa
