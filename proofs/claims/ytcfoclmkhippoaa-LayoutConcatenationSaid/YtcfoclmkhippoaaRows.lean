/-
  No cell of these rows narrows 'for every input' (looked for: loops, veiled, ifaces, maps, wideKeys, modest, calm, conditions, laid).
  DERIVED. THE GIVEN ROWS OF THIS SEAT. 7 by the template 'for every input the law returns true; each argument reads behind the call as it read before'; 0 by the template 'total and deterministic' (their statements: YtcfoclmkhippoaaTotals.lean).
  GIVEN WITH THE SEED: the statements are not yours to turn. If you find one false, say at which input.
  Laid BY PROGRAM, IN A SANDBOX (cutbox-rows.mjs): the forced cells as the released guide's own fill.sh prints them over the translation 4a66e0b8426e5206… (all of the seat's roots in one cut). By AI agents, Wed Nov 11 2026. No macro, syntax, notation, axiom, sorry.
-/
import Derived.Test.YtcfoclmkhippoaaChecked
import GoSem.Claim
import GoSem.ClaimJoined
import GoSem.ClaimMapViews
import Derived.JoinedTies
import Derived.KernelRfl
namespace Go.Proofs.Ytcfoclmkhippoaa
/- THE CELL 'sum', in the pinned program and in every row, IS THE sha256 OF THE DUMP (.gsa) THAT YtcfoclmkhippoaaProg.lean LOADS. Nothing in Lean hashes anything: it is a label: what it is worth is what the hold of that sum in a sandbox is worth. -/
noncomputable def Try.pinned : Pinned := { name := "ytcfoclmkhippoaa", sum := "4a66e0b8426e5206135922e9aba288fb91948c3ea0570dc1c353abf8a94c1120", checked := Try.checked }
namespace Rows
def none {H : Type} : Left H := { results := [], args := [] }

/-- 'stelelaw16.LayoutPositions': WHATEVER THE INPUT: true; the input reads as it did. -/
def layoutPositionsSpec : ChangeSpec := { name := "layoutPositions", fn := fun _ => fun
  | [d1, d2, d3] => { results := [.lit (.bool true)], args := [d1, d2, d3] }
  | _ => none }
def layoutPositionsRow : OpenClaim := { program := "ytcfoclmkhippoaa", sum := "4a66e0b8426e5206135922e9aba288fb91948c3ea0570dc1c353abf8a94c1120", func := "stele/stelelaw16.LayoutPositions", spec := "layoutPositions", inPlace := ["internal/abi.NoEscape", "internal/bytealg.MakeNoZero"], unfollowed := true, recurses := true, apart := false }
def LayoutPositionsSaid : Prop := layoutPositionsRow.holds Try.pinned (OpenSpec.ofChange layoutPositionsSpec)

/-- ITS FALSE NEIGHBOUR: 'it returns false'. Refute it at one input. -/
def layoutPositionsWrong : ChangeSpec := { name := "layoutPositions", fn := fun _ => fun
  | [d1, d2, d3] => { results := [.lit (.bool false)], args := [d1, d2, d3] }
  | _ => none }
def LayoutPositionsWrongFalsely : Prop := layoutPositionsRow.holds Try.pinned (OpenSpec.ofChange layoutPositionsWrong)

/-- 'stelelaw16.LayoutInverse': WHATEVER THE INPUT: true; the input reads as it did. -/
def layoutInverseSpec : ChangeSpec := { name := "layoutInverse", fn := fun _ => fun
  | [d1, d2, d3] => { results := [.lit (.bool true)], args := [d1, d2, d3] }
  | _ => none }
def layoutInverseRow : OpenClaim := { program := "ytcfoclmkhippoaa", sum := "4a66e0b8426e5206135922e9aba288fb91948c3ea0570dc1c353abf8a94c1120", func := "stele/stelelaw16.LayoutInverse", spec := "layoutInverse", inPlace := ["internal/abi.NoEscape", "internal/bytealg.MakeNoZero"], unfollowed := true, recurses := true, apart := false }
def LayoutInverseSaid : Prop := layoutInverseRow.holds Try.pinned (OpenSpec.ofChange layoutInverseSpec)

/-- ITS FALSE NEIGHBOUR: 'it returns false'. Refute it at one input. -/
def layoutInverseWrong : ChangeSpec := { name := "layoutInverse", fn := fun _ => fun
  | [d1, d2, d3] => { results := [.lit (.bool false)], args := [d1, d2, d3] }
  | _ => none }
def LayoutInverseWrongFalsely : Prop := layoutInverseRow.holds Try.pinned (OpenSpec.ofChange layoutInverseWrong)

/-- 'stelelaw16.LayoutStripes': WHATEVER THE INPUT: true; the input reads as it did. -/
def layoutStripesSpec : ChangeSpec := { name := "layoutStripes", fn := fun _ => fun
  | [d1, d2] => { results := [.lit (.bool true)], args := [d1, d2] }
  | _ => none }
def layoutStripesRow : OpenClaim := { program := "ytcfoclmkhippoaa", sum := "4a66e0b8426e5206135922e9aba288fb91948c3ea0570dc1c353abf8a94c1120", func := "stele/stelelaw16.LayoutStripes", spec := "layoutStripes", inPlace := ["internal/abi.NoEscape", "internal/bytealg.MakeNoZero"], unfollowed := true, recurses := true, apart := false }
def LayoutStripesSaid : Prop := layoutStripesRow.holds Try.pinned (OpenSpec.ofChange layoutStripesSpec)

/-- ITS FALSE NEIGHBOUR: 'it returns false'. Refute it at one input. -/
def layoutStripesWrong : ChangeSpec := { name := "layoutStripes", fn := fun _ => fun
  | [d1, d2] => { results := [.lit (.bool false)], args := [d1, d2] }
  | _ => none }
def LayoutStripesWrongFalsely : Prop := layoutStripesRow.holds Try.pinned (OpenSpec.ofChange layoutStripesWrong)

/-- 'stelelaw16.LayoutPlacement': WHATEVER THE INPUT: true; the input reads as it did. -/
def layoutPlacementSpec : ChangeSpec := { name := "layoutPlacement", fn := fun _ => fun
  | [d1, d2] => { results := [.lit (.bool true)], args := [d1, d2] }
  | _ => none }
def layoutPlacementRow : OpenClaim := { program := "ytcfoclmkhippoaa", sum := "4a66e0b8426e5206135922e9aba288fb91948c3ea0570dc1c353abf8a94c1120", func := "stele/stelelaw16.LayoutPlacement", spec := "layoutPlacement", inPlace := ["internal/abi.NoEscape", "internal/bytealg.MakeNoZero"], unfollowed := true, recurses := true, apart := false }
def LayoutPlacementSaid : Prop := layoutPlacementRow.holds Try.pinned (OpenSpec.ofChange layoutPlacementSpec)

/-- ITS FALSE NEIGHBOUR: 'it returns false'. Refute it at one input. -/
def layoutPlacementWrong : ChangeSpec := { name := "layoutPlacement", fn := fun _ => fun
  | [d1, d2] => { results := [.lit (.bool false)], args := [d1, d2] }
  | _ => none }
def LayoutPlacementWrongFalsely : Prop := layoutPlacementRow.holds Try.pinned (OpenSpec.ofChange layoutPlacementWrong)

/-- 'stelelaw16.LayoutRestores': WHATEVER THE INPUT: true; the input reads as it did. -/
def layoutRestoresSpec : ChangeSpec := { name := "layoutRestores", fn := fun _ => fun
  | [d1, d2, d3] => { results := [.lit (.bool true)], args := [d1, d2, d3] }
  | _ => none }
def layoutRestoresRow : OpenClaim := { program := "ytcfoclmkhippoaa", sum := "4a66e0b8426e5206135922e9aba288fb91948c3ea0570dc1c353abf8a94c1120", func := "stele/stelelaw16.LayoutRestores", spec := "layoutRestores", inPlace := ["internal/abi.NoEscape", "internal/bytealg.MakeNoZero"], unfollowed := true, recurses := true, apart := false }
def LayoutRestoresSaid : Prop := layoutRestoresRow.holds Try.pinned (OpenSpec.ofChange layoutRestoresSpec)

/-- ITS FALSE NEIGHBOUR: 'it returns false'. Refute it at one input. -/
def layoutRestoresWrong : ChangeSpec := { name := "layoutRestores", fn := fun _ => fun
  | [d1, d2, d3] => { results := [.lit (.bool false)], args := [d1, d2, d3] }
  | _ => none }
def LayoutRestoresWrongFalsely : Prop := layoutRestoresRow.holds Try.pinned (OpenSpec.ofChange layoutRestoresWrong)

/-- 'stelelaw16.LayoutRecoverable': WHATEVER THE INPUT: true; the input reads as it did. -/
def layoutRecoverableSpec : ChangeSpec := { name := "layoutRecoverable", fn := fun _ => fun
  | [d1, d2] => { results := [.lit (.bool true)], args := [d1, d2] }
  | _ => none }
def layoutRecoverableRow : OpenClaim := { program := "ytcfoclmkhippoaa", sum := "4a66e0b8426e5206135922e9aba288fb91948c3ea0570dc1c353abf8a94c1120", func := "stele/stelelaw16.LayoutRecoverable", spec := "layoutRecoverable", inPlace := ["internal/abi.NoEscape", "internal/bytealg.MakeNoZero"], unfollowed := true, recurses := true, apart := false }
def LayoutRecoverableSaid : Prop := layoutRecoverableRow.holds Try.pinned (OpenSpec.ofChange layoutRecoverableSpec)

/-- ITS FALSE NEIGHBOUR: 'it returns false'. Refute it at one input. -/
def layoutRecoverableWrong : ChangeSpec := { name := "layoutRecoverable", fn := fun _ => fun
  | [d1, d2] => { results := [.lit (.bool false)], args := [d1, d2] }
  | _ => none }
def LayoutRecoverableWrongFalsely : Prop := layoutRecoverableRow.holds Try.pinned (OpenSpec.ofChange layoutRecoverableWrong)

/-- 'stelelaw16.LayoutConcatenation': WHATEVER THE INPUT: true; the input reads as it did. -/
def layoutConcatenationSpec : ChangeSpec := { name := "layoutConcatenation", fn := fun _ => fun
  | [d1, d2, d3] => { results := [.lit (.bool true)], args := [d1, d2, d3] }
  | _ => none }
def layoutConcatenationRow : OpenClaim := { program := "ytcfoclmkhippoaa", sum := "4a66e0b8426e5206135922e9aba288fb91948c3ea0570dc1c353abf8a94c1120", func := "stele/stelelaw16.LayoutConcatenation", spec := "layoutConcatenation", inPlace := ["internal/abi.NoEscape", "internal/bytealg.MakeNoZero"], unfollowed := true, recurses := true, apart := false }
def LayoutConcatenationSaid : Prop := layoutConcatenationRow.holds Try.pinned (OpenSpec.ofChange layoutConcatenationSpec)

/-- ITS FALSE NEIGHBOUR: 'it returns false'. Refute it at one input. -/
def layoutConcatenationWrong : ChangeSpec := { name := "layoutConcatenation", fn := fun _ => fun
  | [d1, d2, d3] => { results := [.lit (.bool false)], args := [d1, d2, d3] }
  | _ => none }
def LayoutConcatenationWrongFalsely : Prop := layoutConcatenationRow.holds Try.pinned (OpenSpec.ofChange layoutConcatenationWrong)

/- THE SECOND FORM. 'bulk': how many values and letters a reading holds, each counted each time it is reached (what is shared counts as often as it is met; a slice's spare places count too). A statement '..UptoSaid' is the law's where the arguments, and the package variables that the reading takes, are together of bulk at most 1048576: NARROWER than '..Said'. Prove '..Said' where nothing that the law and all that it calls make is longer than what came in: it says more and counts as full. Else prove '..UptoSaid'. A law counts once. -/
mutual
def uptoBulk {H : Type} : DataW H → Nat
  | .lit (.string bytes) => bytes.length + 1
  | .lit _ => 1
  | .nil => 1
  | .ptr d => uptoBulk d + 1
  | .slice elems spare => uptoBulkAll elems + uptoBulkAll spare + 1
  | .agg parts => uptoBulkAll parts + 1
  | .iface _ d => uptoBulk d + 1
  | .map entries => uptoBulkEntries entries + 1
  | .held _ => 1
def uptoBulkAll {H : Type} : List (DataW H) → Nat
  | [] => 0
  | d :: r => uptoBulk d + uptoBulkAll r
def uptoBulkEntries {H : Type} : List (Lit × DataW H) → Nat
  | [] => 0
  | x :: r => uptoBulkEntry x + uptoBulkEntries r
def uptoBulkEntry {H : Type} : Lit × DataW H → Nat
  | (.string bytes, d) => bytes.length + uptoBulk d + 1
  | (_, d) => uptoBulk d + 1
 end
def uptoSmall : (H : Type) → List (DataW H) → Bool := fun _ ds => decide (uptoBulkAll ds ≤ 1048576)
def OpenSpec.upto (s : _root_.Go.ChangeSpec) : _root_.Go.OpenSpec := { _root_.Go.OpenSpec.ofChange s with cond := some uptoSmall }

/-- 'stelelaw16.LayoutPositions', WHERE WHAT IT READS IS OF BULK AT MOST 1048576: true; the input reads as it did. -/
def layoutPositionsUptoRow : OpenClaim := { program := "ytcfoclmkhippoaa", sum := "4a66e0b8426e5206135922e9aba288fb91948c3ea0570dc1c353abf8a94c1120", func := "stele/stelelaw16.LayoutPositions", spec := "layoutPositions", inPlace := ["internal/abi.NoEscape", "internal/bytealg.MakeNoZero"], unfollowed := true, recurses := true, apart := false, narrowed := true }
def LayoutPositionsUptoSaid : Prop := layoutPositionsUptoRow.holds Try.pinned (OpenSpec.upto layoutPositionsSpec)

/-- 'stelelaw16.LayoutInverse', WHERE WHAT IT READS IS OF BULK AT MOST 1048576: true; the input reads as it did. -/
def layoutInverseUptoRow : OpenClaim := { program := "ytcfoclmkhippoaa", sum := "4a66e0b8426e5206135922e9aba288fb91948c3ea0570dc1c353abf8a94c1120", func := "stele/stelelaw16.LayoutInverse", spec := "layoutInverse", inPlace := ["internal/abi.NoEscape", "internal/bytealg.MakeNoZero"], unfollowed := true, recurses := true, apart := false, narrowed := true }
def LayoutInverseUptoSaid : Prop := layoutInverseUptoRow.holds Try.pinned (OpenSpec.upto layoutInverseSpec)

/-- 'stelelaw16.LayoutStripes', WHERE WHAT IT READS IS OF BULK AT MOST 1048576: true; the input reads as it did. -/
def layoutStripesUptoRow : OpenClaim := { program := "ytcfoclmkhippoaa", sum := "4a66e0b8426e5206135922e9aba288fb91948c3ea0570dc1c353abf8a94c1120", func := "stele/stelelaw16.LayoutStripes", spec := "layoutStripes", inPlace := ["internal/abi.NoEscape", "internal/bytealg.MakeNoZero"], unfollowed := true, recurses := true, apart := false, narrowed := true }
def LayoutStripesUptoSaid : Prop := layoutStripesUptoRow.holds Try.pinned (OpenSpec.upto layoutStripesSpec)

/-- 'stelelaw16.LayoutPlacement', WHERE WHAT IT READS IS OF BULK AT MOST 1048576: true; the input reads as it did. -/
def layoutPlacementUptoRow : OpenClaim := { program := "ytcfoclmkhippoaa", sum := "4a66e0b8426e5206135922e9aba288fb91948c3ea0570dc1c353abf8a94c1120", func := "stele/stelelaw16.LayoutPlacement", spec := "layoutPlacement", inPlace := ["internal/abi.NoEscape", "internal/bytealg.MakeNoZero"], unfollowed := true, recurses := true, apart := false, narrowed := true }
def LayoutPlacementUptoSaid : Prop := layoutPlacementUptoRow.holds Try.pinned (OpenSpec.upto layoutPlacementSpec)

/-- 'stelelaw16.LayoutRestores', WHERE WHAT IT READS IS OF BULK AT MOST 1048576: true; the input reads as it did. -/
def layoutRestoresUptoRow : OpenClaim := { program := "ytcfoclmkhippoaa", sum := "4a66e0b8426e5206135922e9aba288fb91948c3ea0570dc1c353abf8a94c1120", func := "stele/stelelaw16.LayoutRestores", spec := "layoutRestores", inPlace := ["internal/abi.NoEscape", "internal/bytealg.MakeNoZero"], unfollowed := true, recurses := true, apart := false, narrowed := true }
def LayoutRestoresUptoSaid : Prop := layoutRestoresUptoRow.holds Try.pinned (OpenSpec.upto layoutRestoresSpec)

/-- 'stelelaw16.LayoutRecoverable', WHERE WHAT IT READS IS OF BULK AT MOST 1048576: true; the input reads as it did. -/
def layoutRecoverableUptoRow : OpenClaim := { program := "ytcfoclmkhippoaa", sum := "4a66e0b8426e5206135922e9aba288fb91948c3ea0570dc1c353abf8a94c1120", func := "stele/stelelaw16.LayoutRecoverable", spec := "layoutRecoverable", inPlace := ["internal/abi.NoEscape", "internal/bytealg.MakeNoZero"], unfollowed := true, recurses := true, apart := false, narrowed := true }
def LayoutRecoverableUptoSaid : Prop := layoutRecoverableUptoRow.holds Try.pinned (OpenSpec.upto layoutRecoverableSpec)

/-- 'stelelaw16.LayoutConcatenation', WHERE WHAT IT READS IS OF BULK AT MOST 1048576: true; the input reads as it did. -/
def layoutConcatenationUptoRow : OpenClaim := { program := "ytcfoclmkhippoaa", sum := "4a66e0b8426e5206135922e9aba288fb91948c3ea0570dc1c353abf8a94c1120", func := "stele/stelelaw16.LayoutConcatenation", spec := "layoutConcatenation", inPlace := ["internal/abi.NoEscape", "internal/bytealg.MakeNoZero"], unfollowed := true, recurses := true, apart := false, narrowed := true }
def LayoutConcatenationUptoSaid : Prop := layoutConcatenationUptoRow.holds Try.pinned (OpenSpec.upto layoutConcatenationSpec)

end Rows
end Go.Proofs.Ytcfoclmkhippoaa
