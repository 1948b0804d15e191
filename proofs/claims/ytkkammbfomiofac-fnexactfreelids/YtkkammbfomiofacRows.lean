/-
  No cell of these rows narrows 'for every input' (looked for: loops, veiled, ifaces, maps, wideKeys, modest, calm, conditions, laid).
  DERIVED. THE GIVEN ROWS OF THIS SEAT. 9 by the template 'for every input the law returns true; each argument reads behind the call as it read before'; 0 by the template 'total and deterministic' (their statements: YtkkammbfomiofacTotals.lean).
  GIVEN WITH THE SEED: the statements are not yours to turn. If you find one false, say at which input.
  Laid BY PROGRAM, IN A SANDBOX (cutbox-rows.mjs): the forced cells as the released guide's own fill.sh prints them over the translation 37006d71f06c9ea7… (all of the seat's roots in one cut). By AI agents, Wed Nov 11 2026. No macro, syntax, notation, axiom, sorry.
-/
import Derived.Test.YtkkammbfomiofacChecked
import GoSem.Claim
import GoSem.ClaimJoined
import GoSem.ClaimMapViews
import Derived.JoinedTies
import Derived.KernelRfl
namespace Go.Proofs.Ytkkammbfomiofac
/- THE CELL 'sum', in the pinned program and in every row, IS THE sha256 OF THE DUMP (.gsa) THAT YtkkammbfomiofacProg.lean LOADS. Nothing in Lean hashes anything: it is a label: what it is worth is what the hold of that sum in a sandbox is worth. -/
noncomputable def Try.pinned : Pinned := { name := "ytkkammbfomiofac", sum := "37006d71f06c9ea75ee679a324222e9b0048ae921f18080b065e87225656ed1c", checked := Try.checked }
namespace Rows
def none {H : Type} : Left H := { results := [], args := [] }

/-- 'laws.FnExactEncodeHeader': WHATEVER THE INPUT: true; the input reads as it did. -/
def fnExactEncodeHeaderSpec : ChangeSpec := { name := "fnExactEncodeHeader", fn := fun _ => fun
  | [d] => { results := [.lit (.bool true)], args := [d] }
  | _ => none }
def fnExactEncodeHeaderRow : OpenClaim := { program := "ytkkammbfomiofac", sum := "37006d71f06c9ea75ee679a324222e9b0048ae921f18080b065e87225656ed1c", func := "loop.example/s02881/laws.FnExactEncodeHeader", spec := "fnExactEncodeHeader", recurses := true, apart := false }
def FnExactEncodeHeaderSaid : Prop := fnExactEncodeHeaderRow.holds Try.pinned (OpenSpec.ofChange fnExactEncodeHeaderSpec)

/-- ITS FALSE NEIGHBOUR: 'it returns false'. Refute it at one input. -/
def fnExactEncodeHeaderWrong : ChangeSpec := { name := "fnExactEncodeHeader", fn := fun _ => fun
  | [d] => { results := [.lit (.bool false)], args := [d] }
  | _ => none }
def FnExactEncodeHeaderWrongFalsely : Prop := fnExactEncodeHeaderRow.holds Try.pinned (OpenSpec.ofChange fnExactEncodeHeaderWrong)

/-- 'laws.FnExactDecodeHeader': WHATEVER THE INPUT: true; the input reads as it did. -/
def fnExactDecodeHeaderSpec : ChangeSpec := { name := "fnExactDecodeHeader", fn := fun _ => fun
  | [d] => { results := [.lit (.bool true)], args := [d] }
  | _ => none }
def fnExactDecodeHeaderRow : OpenClaim := { program := "ytkkammbfomiofac", sum := "37006d71f06c9ea75ee679a324222e9b0048ae921f18080b065e87225656ed1c", func := "loop.example/s02881/laws.FnExactDecodeHeader", spec := "fnExactDecodeHeader", unfollowed := true, recurses := true, apart := false }
def FnExactDecodeHeaderSaid : Prop := fnExactDecodeHeaderRow.holds Try.pinned (OpenSpec.ofChange fnExactDecodeHeaderSpec)

/-- ITS FALSE NEIGHBOUR: 'it returns false'. Refute it at one input. -/
def fnExactDecodeHeaderWrong : ChangeSpec := { name := "fnExactDecodeHeader", fn := fun _ => fun
  | [d] => { results := [.lit (.bool false)], args := [d] }
  | _ => none }
def FnExactDecodeHeaderWrongFalsely : Prop := fnExactDecodeHeaderRow.holds Try.pinned (OpenSpec.ofChange fnExactDecodeHeaderWrong)

/-- 'laws.FnExactLayout': WHATEVER THE INPUT: true; the input reads as it did. -/
def fnExactLayoutSpec : ChangeSpec := { name := "fnExactLayout", fn := fun _ => fun
  | [d] => { results := [.lit (.bool true)], args := [d] }
  | _ => none }
def fnExactLayoutRow : OpenClaim := { program := "ytkkammbfomiofac", sum := "37006d71f06c9ea75ee679a324222e9b0048ae921f18080b065e87225656ed1c", func := "loop.example/s02881/laws.FnExactLayout", spec := "fnExactLayout", apart := false }
def FnExactLayoutSaid : Prop := fnExactLayoutRow.holds Try.pinned (OpenSpec.ofChange fnExactLayoutSpec)

/-- ITS FALSE NEIGHBOUR: 'it returns false'. Refute it at one input. -/
def fnExactLayoutWrong : ChangeSpec := { name := "fnExactLayout", fn := fun _ => fun
  | [d] => { results := [.lit (.bool false)], args := [d] }
  | _ => none }
def FnExactLayoutWrongFalsely : Prop := fnExactLayoutRow.holds Try.pinned (OpenSpec.ofChange fnExactLayoutWrong)

/-- 'laws.FnExactFormatDisk': WHATEVER THE INPUT: true; the input reads as it did. -/
def fnExactFormatDiskSpec : ChangeSpec := { name := "fnExactFormatDisk", fn := fun _ => fun
  | [d] => { results := [.lit (.bool true)], args := [d] }
  | _ => none }
def fnExactFormatDiskRow : OpenClaim := { program := "ytkkammbfomiofac", sum := "37006d71f06c9ea75ee679a324222e9b0048ae921f18080b065e87225656ed1c", func := "loop.example/s02881/laws.FnExactFormatDisk", spec := "fnExactFormatDisk", recurses := true, apart := false }
def FnExactFormatDiskSaid : Prop := fnExactFormatDiskRow.holds Try.pinned (OpenSpec.ofChange fnExactFormatDiskSpec)

/-- ITS FALSE NEIGHBOUR: 'it returns false'. Refute it at one input. -/
def fnExactFormatDiskWrong : ChangeSpec := { name := "fnExactFormatDisk", fn := fun _ => fun
  | [d] => { results := [.lit (.bool false)], args := [d] }
  | _ => none }
def FnExactFormatDiskWrongFalsely : Prop := fnExactFormatDiskRow.holds Try.pinned (OpenSpec.ofChange fnExactFormatDiskWrong)

/-- 'laws.FnExactSegmentCounts': WHATEVER THE INPUT: true; the input reads as it did. -/
def fnExactSegmentCountsSpec : ChangeSpec := { name := "fnExactSegmentCounts", fn := fun _ => fun
  | [d1, d2] => { results := [.lit (.bool true)], args := [d1, d2] }
  | _ => none }
def fnExactSegmentCountsRow : OpenClaim := { program := "ytkkammbfomiofac", sum := "37006d71f06c9ea75ee679a324222e9b0048ae921f18080b065e87225656ed1c", func := "loop.example/s02881/laws.FnExactSegmentCounts", spec := "fnExactSegmentCounts", apart := false }
def FnExactSegmentCountsSaid : Prop := fnExactSegmentCountsRow.holds Try.pinned (OpenSpec.ofChange fnExactSegmentCountsSpec)

/-- ITS FALSE NEIGHBOUR: 'it returns false'. Refute it at one input. -/
def fnExactSegmentCountsWrong : ChangeSpec := { name := "fnExactSegmentCounts", fn := fun _ => fun
  | [d1, d2] => { results := [.lit (.bool false)], args := [d1, d2] }
  | _ => none }
def FnExactSegmentCountsWrongFalsely : Prop := fnExactSegmentCountsRow.holds Try.pinned (OpenSpec.ofChange fnExactSegmentCountsWrong)

/-- 'laws.FnExactFileBlocks': WHATEVER THE INPUT: true; the input reads as it did. -/
def fnExactFileBlocksSpec : ChangeSpec := { name := "fnExactFileBlocks", fn := fun _ => fun
  | [d] => { results := [.lit (.bool true)], args := [d] }
  | _ => none }
def fnExactFileBlocksRow : OpenClaim := { program := "ytkkammbfomiofac", sum := "37006d71f06c9ea75ee679a324222e9b0048ae921f18080b065e87225656ed1c", func := "loop.example/s02881/laws.FnExactFileBlocks", spec := "fnExactFileBlocks", apart := false }
def FnExactFileBlocksSaid : Prop := fnExactFileBlocksRow.holds Try.pinned (OpenSpec.ofChange fnExactFileBlocksSpec)

/-- ITS FALSE NEIGHBOUR: 'it returns false'. Refute it at one input. -/
def fnExactFileBlocksWrong : ChangeSpec := { name := "fnExactFileBlocks", fn := fun _ => fun
  | [d] => { results := [.lit (.bool false)], args := [d] }
  | _ => none }
def FnExactFileBlocksWrongFalsely : Prop := fnExactFileBlocksRow.holds Try.pinned (OpenSpec.ofChange fnExactFileBlocksWrong)

/-- 'laws.FnExactFreeSegment': WHATEVER THE INPUT: true; the input reads as it did. -/
def fnExactFreeSegmentSpec : ChangeSpec := { name := "fnExactFreeSegment", fn := fun _ => fun
  | [d1, d2] => { results := [.lit (.bool true)], args := [d1, d2] }
  | _ => none }
def fnExactFreeSegmentRow : OpenClaim := { program := "ytkkammbfomiofac", sum := "37006d71f06c9ea75ee679a324222e9b0048ae921f18080b065e87225656ed1c", func := "loop.example/s02881/laws.FnExactFreeSegment", spec := "fnExactFreeSegment", unfollowed := true, recurses := true, apart := false }
def FnExactFreeSegmentSaid : Prop := fnExactFreeSegmentRow.holds Try.pinned (OpenSpec.ofChange fnExactFreeSegmentSpec)

/-- ITS FALSE NEIGHBOUR: 'it returns false'. Refute it at one input. -/
def fnExactFreeSegmentWrong : ChangeSpec := { name := "fnExactFreeSegment", fn := fun _ => fun
  | [d1, d2] => { results := [.lit (.bool false)], args := [d1, d2] }
  | _ => none }
def FnExactFreeSegmentWrongFalsely : Prop := fnExactFreeSegmentRow.holds Try.pinned (OpenSpec.ofChange fnExactFreeSegmentWrong)

/-- 'laws.FnExactPickVictim': WHATEVER THE INPUT: true; the input reads as it did. -/
def fnExactPickVictimSpec : ChangeSpec := { name := "fnExactPickVictim", fn := fun _ => fun
  | [d1, d2, d3] => { results := [.lit (.bool true)], args := [d1, d2, d3] }
  | _ => none }
def fnExactPickVictimRow : OpenClaim := { program := "ytkkammbfomiofac", sum := "37006d71f06c9ea75ee679a324222e9b0048ae921f18080b065e87225656ed1c", func := "loop.example/s02881/laws.FnExactPickVictim", spec := "fnExactPickVictim", unfollowed := true, recurses := true, apart := false }
def FnExactPickVictimSaid : Prop := fnExactPickVictimRow.holds Try.pinned (OpenSpec.ofChange fnExactPickVictimSpec)

/-- ITS FALSE NEIGHBOUR: 'it returns false'. Refute it at one input. -/
def fnExactPickVictimWrong : ChangeSpec := { name := "fnExactPickVictim", fn := fun _ => fun
  | [d1, d2, d3] => { results := [.lit (.bool false)], args := [d1, d2, d3] }
  | _ => none }
def FnExactPickVictimWrongFalsely : Prop := fnExactPickVictimRow.holds Try.pinned (OpenSpec.ofChange fnExactPickVictimWrong)

/-- 'laws.FnExactFreeLids': WHATEVER THE INPUT: true; the input reads as it did. -/
def fnExactFreeLidsSpec : ChangeSpec := { name := "fnExactFreeLids", fn := fun _ => fun
  | [d1, d2] => { results := [.lit (.bool true)], args := [d1, d2] }
  | _ => none }
def fnExactFreeLidsRow : OpenClaim := { program := "ytkkammbfomiofac", sum := "37006d71f06c9ea75ee679a324222e9b0048ae921f18080b065e87225656ed1c", func := "loop.example/s02881/laws.FnExactFreeLids", spec := "fnExactFreeLids", unfollowed := true, recurses := true, apart := false }
def FnExactFreeLidsSaid : Prop := fnExactFreeLidsRow.holds Try.pinned (OpenSpec.ofChange fnExactFreeLidsSpec)

/-- ITS FALSE NEIGHBOUR: 'it returns false'. Refute it at one input. -/
def fnExactFreeLidsWrong : ChangeSpec := { name := "fnExactFreeLids", fn := fun _ => fun
  | [d1, d2] => { results := [.lit (.bool false)], args := [d1, d2] }
  | _ => none }
def FnExactFreeLidsWrongFalsely : Prop := fnExactFreeLidsRow.holds Try.pinned (OpenSpec.ofChange fnExactFreeLidsWrong)

/- THE SECOND FORM. 'bulk': how many values and letters a reading holds, each counted each time it is reached (what is shared counts as often as it is met; a slice's spare places count too). A statement '..UptoSaid' is the law's where the arguments, and the package variables that the reading takes, are together of bulk at most 1048576: NARROWER than '..Said'. Prove '..Said' where nothing that the law and all that it calls make is longer than what came in: it says more and counts as full. Else prove '..UptoSaid'. A law counts once. -/
mutual
def uptoBulk {H : Type} : DataW H → Nat
  | .lit (.string bytes) => bytes.length + 1
  | .lit _ => 1
  | .nil => 1
  | .ptr d => uptoBulk d + 1
  | .slice elems spare => uptoBulkAll elems + uptoBulkAll spare + 1
  | .agg parts => uptoBulkAll parts + 1
  | .iface _ d => uptoBulk d + 1
  | .map entries => uptoBulkEntries entries + 1
  | .held _ => 1
def uptoBulkAll {H : Type} : List (DataW H) → Nat
  | [] => 0
  | d :: r => uptoBulk d + uptoBulkAll r
def uptoBulkEntries {H : Type} : List (Lit × DataW H) → Nat
  | [] => 0
  | x :: r => uptoBulkEntry x + uptoBulkEntries r
def uptoBulkEntry {H : Type} : Lit × DataW H → Nat
  | (.string bytes, d) => bytes.length + uptoBulk d + 1
  | (_, d) => uptoBulk d + 1
 end
def uptoSmall : (H : Type) → List (DataW H) → Bool := fun _ ds => decide (uptoBulkAll ds ≤ 1048576)
def OpenSpec.upto (s : _root_.Go.ChangeSpec) : _root_.Go.OpenSpec := { _root_.Go.OpenSpec.ofChange s with cond := some uptoSmall }

/-- 'laws.FnExactEncodeHeader', WHERE WHAT IT READS IS OF BULK AT MOST 1048576: true; the input reads as it did. -/
def fnExactEncodeHeaderUptoRow : OpenClaim := { program := "ytkkammbfomiofac", sum := "37006d71f06c9ea75ee679a324222e9b0048ae921f18080b065e87225656ed1c", func := "loop.example/s02881/laws.FnExactEncodeHeader", spec := "fnExactEncodeHeader", recurses := true, apart := false, narrowed := true }
def FnExactEncodeHeaderUptoSaid : Prop := fnExactEncodeHeaderUptoRow.holds Try.pinned (OpenSpec.upto fnExactEncodeHeaderSpec)

/-- 'laws.FnExactDecodeHeader', WHERE WHAT IT READS IS OF BULK AT MOST 1048576: true; the input reads as it did. -/
def fnExactDecodeHeaderUptoRow : OpenClaim := { program := "ytkkammbfomiofac", sum := "37006d71f06c9ea75ee679a324222e9b0048ae921f18080b065e87225656ed1c", func := "loop.example/s02881/laws.FnExactDecodeHeader", spec := "fnExactDecodeHeader", unfollowed := true, recurses := true, apart := false, narrowed := true }
def FnExactDecodeHeaderUptoSaid : Prop := fnExactDecodeHeaderUptoRow.holds Try.pinned (OpenSpec.upto fnExactDecodeHeaderSpec)

/-- 'laws.FnExactLayout', WHERE WHAT IT READS IS OF BULK AT MOST 1048576: true; the input reads as it did. -/
def fnExactLayoutUptoRow : OpenClaim := { program := "ytkkammbfomiofac", sum := "37006d71f06c9ea75ee679a324222e9b0048ae921f18080b065e87225656ed1c", func := "loop.example/s02881/laws.FnExactLayout", spec := "fnExactLayout", apart := false, narrowed := true }
def FnExactLayoutUptoSaid : Prop := fnExactLayoutUptoRow.holds Try.pinned (OpenSpec.upto fnExactLayoutSpec)

/-- 'laws.FnExactFormatDisk', WHERE WHAT IT READS IS OF BULK AT MOST 1048576: true; the input reads as it did. -/
def fnExactFormatDiskUptoRow : OpenClaim := { program := "ytkkammbfomiofac", sum := "37006d71f06c9ea75ee679a324222e9b0048ae921f18080b065e87225656ed1c", func := "loop.example/s02881/laws.FnExactFormatDisk", spec := "fnExactFormatDisk", recurses := true, apart := false, narrowed := true }
def FnExactFormatDiskUptoSaid : Prop := fnExactFormatDiskUptoRow.holds Try.pinned (OpenSpec.upto fnExactFormatDiskSpec)

/-- 'laws.FnExactSegmentCounts', WHERE WHAT IT READS IS OF BULK AT MOST 1048576: true; the input reads as it did. -/
def fnExactSegmentCountsUptoRow : OpenClaim := { program := "ytkkammbfomiofac", sum := "37006d71f06c9ea75ee679a324222e9b0048ae921f18080b065e87225656ed1c", func := "loop.example/s02881/laws.FnExactSegmentCounts", spec := "fnExactSegmentCounts", apart := false, narrowed := true }
def FnExactSegmentCountsUptoSaid : Prop := fnExactSegmentCountsUptoRow.holds Try.pinned (OpenSpec.upto fnExactSegmentCountsSpec)

/-- 'laws.FnExactFileBlocks', WHERE WHAT IT READS IS OF BULK AT MOST 1048576: true; the input reads as it did. -/
def fnExactFileBlocksUptoRow : OpenClaim := { program := "ytkkammbfomiofac", sum := "37006d71f06c9ea75ee679a324222e9b0048ae921f18080b065e87225656ed1c", func := "loop.example/s02881/laws.FnExactFileBlocks", spec := "fnExactFileBlocks", apart := false, narrowed := true }
def FnExactFileBlocksUptoSaid : Prop := fnExactFileBlocksUptoRow.holds Try.pinned (OpenSpec.upto fnExactFileBlocksSpec)

/-- 'laws.FnExactFreeSegment', WHERE WHAT IT READS IS OF BULK AT MOST 1048576: true; the input reads as it did. -/
def fnExactFreeSegmentUptoRow : OpenClaim := { program := "ytkkammbfomiofac", sum := "37006d71f06c9ea75ee679a324222e9b0048ae921f18080b065e87225656ed1c", func := "loop.example/s02881/laws.FnExactFreeSegment", spec := "fnExactFreeSegment", unfollowed := true, recurses := true, apart := false, narrowed := true }
def FnExactFreeSegmentUptoSaid : Prop := fnExactFreeSegmentUptoRow.holds Try.pinned (OpenSpec.upto fnExactFreeSegmentSpec)

/-- 'laws.FnExactPickVictim', WHERE WHAT IT READS IS OF BULK AT MOST 1048576: true; the input reads as it did. -/
def fnExactPickVictimUptoRow : OpenClaim := { program := "ytkkammbfomiofac", sum := "37006d71f06c9ea75ee679a324222e9b0048ae921f18080b065e87225656ed1c", func := "loop.example/s02881/laws.FnExactPickVictim", spec := "fnExactPickVictim", unfollowed := true, recurses := true, apart := false, narrowed := true }
def FnExactPickVictimUptoSaid : Prop := fnExactPickVictimUptoRow.holds Try.pinned (OpenSpec.upto fnExactPickVictimSpec)

/-- 'laws.FnExactFreeLids', WHERE WHAT IT READS IS OF BULK AT MOST 1048576: true; the input reads as it did. -/
def fnExactFreeLidsUptoRow : OpenClaim := { program := "ytkkammbfomiofac", sum := "37006d71f06c9ea75ee679a324222e9b0048ae921f18080b065e87225656ed1c", func := "loop.example/s02881/laws.FnExactFreeLids", spec := "fnExactFreeLids", unfollowed := true, recurses := true, apart := false, narrowed := true }
def FnExactFreeLidsUptoSaid : Prop := fnExactFreeLidsUptoRow.holds Try.pinned (OpenSpec.upto fnExactFreeLidsSpec)

end Rows
end Go.Proofs.Ytkkammbfomiofac
