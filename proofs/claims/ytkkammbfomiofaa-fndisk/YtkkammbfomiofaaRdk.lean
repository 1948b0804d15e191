/-
  A disk that is read: the six functions over it.
-/
import Derived.Test.YtkkammbfomiofaaDkm
import Derived.Test.YtkkammbfomiofaaCnv
namespace Go.Proofs.Ytkkammbfomiofaa
open Go.RowKit
set_option linter.unusedSimpArgs false
set_option linter.unusedVariables false

/-- A disk that can be read. -/
structure RD (w : World) (a : Option Addr) (n ca : Nat) (p : Option Addr) (m : Nat) (xs : List Int) (val : List (Int × List Int)) : Prop where
  dur : IRow .u8 w a n xs
  pend : ∃ ws, PRead w p m ws ∧ wVal ws = val
  cap : n ≤ ca
  dn : n ≤ 2097152
  dm : m ≤ 2097152
theorem RD.below {w w' : World} {a : Option Addr} {n ca : Nat} {p : Option Addr} {m : Nat} {xs : List Int} {val : List (Int × List Int)} (h : RD w a n ca p m xs val) (hb : Below w.heap.size w w') : RD w' a n ca p m xs val := by
  obtain ⟨ws, h1, h2⟩ := h.pend
  exact ⟨h.dur.below hb, ⟨ws, h1.below hb, h2⟩, h.cap, h.dn, h.dm⟩
theorem RD.xlen {w : World} {a : Option Addr} {n ca : Nat} {p : Option Addr} {m : Nat} {xs : List Int} {val : List (Int × List Int)} (h : RD w a n ca p m xs val) : xs.length = n := h.dur.1
theorem RD.vlen {w : World} {a : Option Addr} {n ca : Nat} {p : Option Addr} {m : Nat} {xs : List Int} {val : List (Int × List Int)} (h : RD w a n ca p m xs val) : val.length = m := by
  obtain ⟨ws, h1, h2⟩ := h.pend
  rw [← h2, wVal_len]; exact h1.1
/-- A disk whose memory lies from block lo on. -/
def OD (lo : Nat) (w : World) (a : Option Addr) (n ca : Nat) (p : Option Addr) (m : Nat) (xs : List Int) (val : List (Int × List Int)) : Prop :=
  ∃ T vs, DOwn T lo w.heap.size w a n xs p m vs ∧ wVal vs = val ∧ n ≤ ca
theorem OD.rd {lo : Nat} {w : World} {a : Option Addr} {n ca : Nat} {p : Option Addr} {m : Nat} {xs : List Int} {val : List (Int × List Int)} (h : OD lo w a n ca p m xs val) : RD w a n ca p m xs val := by
  obtain ⟨T, vs, hD, e1, hc⟩ := h
  exact ⟨hD.dur.read, ⟨vs, hD.pend.read, e1⟩, hc, hD.dn, hD.dm⟩
theorem OD.kept {lo : Nat} {w w' : World} {a : Option Addr} {n ca : Nat} {p : Option Addr} {m : Nat} {xs : List Int} {val : List (Int × List Int)} {G : Nat → Prop} (h : OD lo w a n ca p m xs val) (hk : Kept G w w') (hG : ∀ g, lo ≤ g → ¬ G g) : OD lo w' a n ca p m xs val := by
  obtain ⟨T, vs, hD, e1, hc⟩ := h
  exact ⟨T, vs, (hD.kept hk (fun g h1 _ => hG g h1)).wide (Nat.le_refl _) hk.size (Nat.le_refl _), e1, hc⟩
/-- An answer that can be read. -/
def RAns (w w' : World) (e : Ending) (xs : List Int) (val : List (Int × List Int)) : Prop :=
  ∃ a n ca p m cp, e = .returned (.agg #[.slice a n ca, .slice p m cp]) ∧ OD w.heap.size w' a n ca p m xs val ∧ Below w.heap.size w w'
theorem DAns.r {w w' : World} {e : Ending} {xs : List Int} {val : List (Int × List Int)} (h : DAns w w' e xs val) : RAns w w' e xs val := by
  obtain ⟨T, vs, a, n, ca, p, m, cp, rfl, hD, e1, hc, hb⟩ := h
  exact ⟨a, n, ca, p, m, cp, rfl, ⟨T, vs, hD, e1, hc⟩, hb⟩
section
variable {w : World} {a : Option Addr} {n ca : Nat} {p : Option Addr} {m : Nat} {xs : List Int} {val : List (Int × List Int)}
theorem write_rd (h : RD w a n ca p m xs val) (cp : Nat) (b : Int) {dx : Option Addr} {l lc : Nat} {X : List Int} (hX : IRow .u8 w dx l X) (hl : l ≤ 2097152) (hb : (Lit.int .i64 b).wf = true) :
    Calls Try.prog 11 #[.agg #[.slice a n ca, .slice p m cp], .int .i64 b, .slice dx l lc] w fun e w' => RAns w w' e (dwX n xs val b l) (dwW n val b l X) := by
  obtain ⟨ws, h1, rfl⟩ := h.pend
  exact (diskWrite_impl a p n ca m cp xs ws b dx l lc X w h.dur h1 hX h.cap h.dn h.dm hl hb).mono fun e w' h => h.r
theorem writeS_rd (h : RD w a n ca p m xs val) (cp : Nat) (b : Int) {dx : Option Addr} {l lc : Nat} {X : List Int} (hX : IRow .u8 w dx l X) (hl : l ≤ 2097152) (hb : (Lit.int .i64 b).wf = true) :
    Calls Try.prog 12 #[.agg #[.slice a n ca, .slice p m cp], .int .i64 b, .slice dx l lc] w fun e w' => RAns w w' e (dwX n xs val b l) (dwW n val b l X) := by
  obtain ⟨ws, h1, rfl⟩ := h.pend
  exact (diskWrite_spec a p n ca m cp xs ws b dx l lc X w h.dur h1 hX h.cap h.dn h.dm hl hb).mono fun e w' h => h.d.r
theorem barrier_rd (h : RD w a n ca p m xs val) (cp : Nat) :
    Calls Try.prog 15 #[.agg #[.slice a n ca, .slice p m cp]] w fun e w' => RAns w w' e (dbX n xs val) [] := by
  obtain ⟨ws, h1, rfl⟩ := h.pend
  exact (diskBarrier_impl a p n ca m cp xs ws w h.dur h1 h.cap h.dn h.dm).mono fun e w' h => h.r
theorem crash_rd (h : RD w a n ca p m xs val) (cp : Nat) {cd : Option Addr} {l lc : Nat} {ch : List Int} (hch : IRow .i64 w cd l ch) (hll : l ≤ 2097152) :
    Calls Try.prog 14 #[.agg #[.slice a n ca, .slice p m cp], .slice cd l lc] w fun e w' => RAns w w' e (dcX n xs val l ch) [] := by
  obtain ⟨ws, h1, rfl⟩ := h.pend
  exact (diskCrash_impl a p n ca m cp xs ws cd l lc ch w h.dur h1 hch hll h.cap h.dn h.dm).mono fun e w' h => h.r
/-- An answer that is a block. -/
def BAns (w w' : World) (e : Ending) (X : List Int) : Prop := ∃ a l c, e = .returned (.slice a l c) ∧ X.length = l ∧ IRow .u8 w' a l X ∧ Below w.heap.size w w'
theorem read_rd (h : RD w a n ca p m xs val) (cp : Nat) (b : Int) (hb : (Lit.int .i64 b).wf = true) :
    Calls Try.prog 13 #[.agg #[.slice a n ca, .slice p m cp], .int .i64 b] w fun e w' => BAns w w' e (dreadL n xs val b) := by
  obtain ⟨ws, h1, rfl⟩ := h.pend
  refine (diskRead_impl a p n ca m cp xs ws b w h.dur h1 h.cap h.dn h.dm hb).mono fun e w' h => ?_
  obtain ⟨g, c, rfl, _, _, r, hb⟩ := h
  exact ⟨_, _, c, rfl, rfl, r.read, hb⟩
theorem readS_rd (h : RD w a n ca p m xs val) (cp : Nat) (b : Int) :
    Calls Try.prog 17 #[.agg #[.slice a n ca, .slice p m cp], .int .i64 b] w fun e w' => BAns w w' e (dreadL n xs val b) := by
  obtain ⟨ws, h1, rfl⟩ := h.pend
  refine (diskRead_spec a p n ca m cp xs ws b w h.dur h1 h.cap h.dn h.dm).mono fun e w' h => ?_
  obtain ⟨s, rfl, ho, hb⟩ := h
  obtain ⟨a9, c9, rfl, r9⟩ := owns_row ho
  exact ⟨_, _, c9, rfl, rfl, r9.read, hb⟩
end
end Go.Proofs.Ytkkammbfomiofaa
