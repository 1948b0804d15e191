/-
  Rows of strings (as in Fst, for seats that have no FormatAnswer).
-/
import Derived.Test.YtfgfdjcgfbodfaaGreatDoorBytes
import Derived.Test.YtfgfdjcgfbodfaaGreatDoorFill
import Derived.Lib.Hide
namespace Go.Proofs.YtfgfdjcgfbodfaaGreatDoor
open Go.RowKit
set_option linter.unusedSimpArgs false
set_option linter.unusedVariables false

def sAt (ss : List ByteArray) (i : Nat) : ByteArray := ss[i]?.getD ⟨#[]⟩
/-- n strings from the address a on. -/
def SRow (w : World) (a : Option Addr) (n : Nat) (ss : List ByteArray) : Prop :=
  ss.length = n ∧ (n = 0 ∨ ∃ g off, a = some ⟨g, off, none⟩ ∧ ∀ i, i < n → w.cell? ⟨g, off + i, none⟩ = some (.string (sAt ss i)))
/-- .. from the head of block g on. -/
def SHead (w : World) (g n : Nat) (ss : List ByteArray) : Prop :=
  ss.length = n ∧ ∀ i, i < n → w.cell? ⟨g, i, none⟩ = some (.string (sAt ss i))
theorem SRow.below {w w' : World} {a : Option Addr} {n : Nat} {ss : List ByteArray} (h : SRow w a n ss) (hb : Below w.heap.size w w') : SRow w' a n ss := by
  refine ⟨h.1, h.2.imp id ?_⟩
  rintro ⟨g, off, rfl, hc⟩
  exact ⟨g, off, rfl, fun i hi => (hb.cell (World.block_lt_of_cell? w _ (hc i hi))).trans (hc i hi)⟩
theorem SHead.below {w w' : World} {g n : Nat} {ss : List ByteArray} (h : SHead w g n ss) (hb : Below w.heap.size w w') : SHead w' g n ss :=
  ⟨h.1, fun i hi => (hb.cell (World.block_lt_of_cell? w _ (h.2 i hi))).trans (h.2 i hi)⟩
end Go.Proofs.YtfgfdjcgfbodfaaGreatDoor
