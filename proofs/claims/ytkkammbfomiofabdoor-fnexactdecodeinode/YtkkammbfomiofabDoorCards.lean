/-
  DERIVED. GIVEN WITH THE SEED: THE CARDS: each row of YtkkammbfomiofabDoorRows.lean that lists a variable, with what it lists TIED to the program's text (the seventh form; the later family's looks); each row that meets fmt, with fmt's text TOLD by the authors' own Lean function (tested against real Go, not proved from fmt's source: count such statements apart). THE CARD IS WHAT COUNTS. Prove the row's statement (the work); the ties are given (YtkkammbfomiofabDoorTie.lean); close each card by the builder's one call (the guide's Derived/Test/ToyasCard.lean, 'card_holds'). Laid BY PROGRAM, IN A SANDBOX (cutbox-door.mjs). By AI agents, Wed Nov 11 2026. No macro, syntax, notation, axiom, sorry.
-/
import Derived.Test.YtkkammbfomiofabDoorRows
import GoSem.ClaimSeven
namespace Go.Proofs.YtkkammbfomiofabDoor
namespace Rows

/-- THE TIED CARD OF 'laws.FnExactDecodeInode'. -/
def fnExactDecodeInodeCard : Claim7 := { stood := { row := fnExactDecodeInodeRow, standIns := [], harness := (true, "0b7d95c848d75514963197a5ffbc6f4005c6cf52f38a8962206d3a5a881aa314"), looks := true }, kinds := [], alts := [], laidByText := true, laidKinds := [.data, .pinned], laidTests := true, laidLooks := .later }
def FnExactDecodeInodeCardSaid : Prop := Claim7.holds Tryd.pinned (.plain (OpenSpec.ofChange fnExactDecodeInodeSpec)) fnExactDecodeInodeCard

/-- THE SECOND FORM's CARD OF 'laws.FnExactDecodeInode'. -/
def fnExactDecodeInodeUptoCard : Claim7 := { stood := { row := fnExactDecodeInodeUptoRow, standIns := [], harness := (true, "0b7d95c848d75514963197a5ffbc6f4005c6cf52f38a8962206d3a5a881aa314"), looks := true }, kinds := [], alts := [], laidByText := true, laidKinds := [.data, .pinned], laidTests := true, laidLooks := .later }
def FnExactDecodeInodeUptoCardSaid : Prop := Claim7.holds Tryd.pinned (.plain (OpenSpec.upto fnExactDecodeInodeSpec)) fnExactDecodeInodeUptoCard
end Rows
end Go.Proofs.YtkkammbfomiofabDoor
