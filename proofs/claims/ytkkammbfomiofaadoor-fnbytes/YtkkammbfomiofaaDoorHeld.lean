/-
  heldEntryS.
-/
import Derived.Test.YtkkammbfomiofaaDoorDc
namespace Go.Proofs.YtkkammbfomiofaaDoor
open Go.RowKit
set_option linter.unusedSimpArgs false
set_option linter.unusedVariables false

end Go.Proofs.YtkkammbfomiofaaDoor
