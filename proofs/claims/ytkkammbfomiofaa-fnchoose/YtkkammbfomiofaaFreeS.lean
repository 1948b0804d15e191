/-
  FreeSegment, both sides; FnExactFreeSegment: the law's walk.
-/
import Derived.Test.YtkkammbfomiofaaCand
namespace Go.Proofs.Ytkkammbfomiofaa
open Go.RowKit
set_option linter.unusedSimpArgs false
set_option linter.unusedVariables false

/-- The number that FreeSegment answers. -/
def freeN (xs : List Int) (act : Int) (n : Nat) : Int := numO (bestO ltN (candL (fitF xs act) xs n))

set_option maxHeartbeats 1000000 in
theorem freeSegment_impl (a : Option Addr) (n ca : Nat) (xs : List Int) (act : Int) (w : World) (ha : IRow .i64 w a n xs) (hn : n ≤ 2097152) :
    Calls Try.prog 20 #[.slice a n ca, .int .i64 act] w fun e w' => e = .returned (.int .i64 (freeN xs act n)) ∧ Below w.heap.size w w' := by
  have hc := candidates_free a n ca xs act w ha hn
  have hl := candL_len (fitF xs act) xs n
  have hl2 : (candL (fitF xs act) xs n).length ≤ 2097152 := by omega
  have hB : ∀ (b : Option Addr) (c : Nat) (v : World), NRead v b (candL (fitF xs act) xs n).length (candL (fitF xs act) xs n) → Calls Try.prog 51 #[.slice b (candL (fitF xs act) xs n).length c, .func (.func 55) #[] #[]] v fun e w' => e = .returned (.int .i64 (freeN xs act n)) ∧ Below v.heap.size v w' := fun b c v hv => choose_low b _ c _ v hv hl2
  generalize candL (fitF xs act) xs n = l at *
  generalize freeN xs act n = r at *
  clear ha hl hl2
  go_enter Try.func20, Try.ntmps20
  go_wp2_with fail
  refine hc.mono ?_
  rintro e w2 ⟨s, rfl, own2, hb2⟩
  obtain ⟨b, c, rfl, hr⟩ := owns_pread own2
  clear own2 hc
  go_wp2_with fail
  refine (hB b c w2 hr).mono ?_
  rintro e w3 ⟨rfl, hb3⟩
  have hb4 := hb2.trans (hb3.mono hb2.size)
  clear hb2 hb3 hB hr
  go_wp2
  go_ret
  exact ⟨rfl, hb4⟩

end Go.Proofs.Ytkkammbfomiofaa
