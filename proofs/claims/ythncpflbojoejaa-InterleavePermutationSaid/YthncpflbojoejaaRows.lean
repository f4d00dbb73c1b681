/-
  No cell of these rows narrows 'for every input' (looked for: loops, veiled, ifaces, maps, wideKeys, modest, calm, conditions, laid).
  DERIVED. THE GIVEN ROWS OF THIS SEAT. 8 by the template 'for every input the law returns true; each argument reads behind the call as it read before'; 0 by the template 'total and deterministic' (their statements: YthncpflbojoejaaTotals.lean).
  GIVEN WITH THE SEED: the statements are not yours to turn. If you find one false, say at which input.
  Laid BY PROGRAM, IN A SANDBOX (cutbox-rows.mjs): the forced cells as the released guide's own fill.sh prints them over the translation 6bc403d41e5beec4… (all of the seat's roots in one cut). By AI agents, Wed Nov 11 2026. No macro, syntax, notation, axiom, sorry.
-/
import Derived.Test.YthncpflbojoejaaChecked
import GoSem.Claim
import GoSem.ClaimJoined
import GoSem.ClaimMapViews
import Derived.JoinedTies
import Derived.KernelRfl
namespace Go.Proofs.Ythncpflbojoejaa
/- THE CELL 'sum', in the pinned program and in every row, IS THE sha256 OF THE DUMP (.gsa) THAT YthncpflbojoejaaProg.lean LOADS. Nothing in Lean hashes anything: it is a label: what it is worth is what the hold of that sum in a sandbox is worth. -/
noncomputable def Try.pinned : Pinned := { name := "ythncpflbojoejaa", sum := "6bc403d41e5beec4efc8c0adda021e364cb74ebdc3aae695870260a866f4d313", checked := Try.checked }
namespace Rows
def none {H : Type} : Left H := { results := [], args := [] }

/-- 'stelelaw11.InterleaveValues': WHATEVER THE INPUT: true; the input reads as it did. -/
def interleaveValuesSpec : ChangeSpec := { name := "interleaveValues", fn := fun _ => fun
  | [d1, d2] => { results := [.lit (.bool true)], args := [d1, d2] }
  | _ => none }
def interleaveValuesRow : OpenClaim := { program := "ythncpflbojoejaa", sum := "6bc403d41e5beec4efc8c0adda021e364cb74ebdc3aae695870260a866f4d313", func := "stele/stelelaw11.InterleaveValues", spec := "interleaveValues", unfollowed := true, recurses := true, apart := false }
def InterleaveValuesSaid : Prop := interleaveValuesRow.holds Try.pinned (OpenSpec.ofChange interleaveValuesSpec)

/-- ITS FALSE NEIGHBOUR: 'it returns false'. Refute it at one input. -/
def interleaveValuesWrong : ChangeSpec := { name := "interleaveValues", fn := fun _ => fun
  | [d1, d2] => { results := [.lit (.bool false)], args := [d1, d2] }
  | _ => none }
def InterleaveValuesWrongFalsely : Prop := interleaveValuesRow.holds Try.pinned (OpenSpec.ofChange interleaveValuesWrong)

/-- 'stelelaw11.InterleaveIndices': WHATEVER THE INPUT: true; the input reads as it did. -/
def interleaveIndicesSpec : ChangeSpec := { name := "interleaveIndices", fn := fun _ => fun
  | [d1, d2, d3] => { results := [.lit (.bool true)], args := [d1, d2, d3] }
  | _ => none }
def interleaveIndicesRow : OpenClaim := { program := "ythncpflbojoejaa", sum := "6bc403d41e5beec4efc8c0adda021e364cb74ebdc3aae695870260a866f4d313", func := "stele/stelelaw11.InterleaveIndices", spec := "interleaveIndices", unfollowed := true, recurses := true, apart := false }
def InterleaveIndicesSaid : Prop := interleaveIndicesRow.holds Try.pinned (OpenSpec.ofChange interleaveIndicesSpec)

/-- ITS FALSE NEIGHBOUR: 'it returns false'. Refute it at one input. -/
def interleaveIndicesWrong : ChangeSpec := { name := "interleaveIndices", fn := fun _ => fun
  | [d1, d2, d3] => { results := [.lit (.bool false)], args := [d1, d2, d3] }
  | _ => none }
def InterleaveIndicesWrongFalsely : Prop := interleaveIndicesRow.holds Try.pinned (OpenSpec.ofChange interleaveIndicesWrong)

/-- 'stelelaw11.InterleaveInverse': WHATEVER THE INPUT: true; the input reads as it did. -/
def interleaveInverseSpec : ChangeSpec := { name := "interleaveInverse", fn := fun _ => fun
  | [d1, d2] => { results := [.lit (.bool true)], args := [d1, d2] }
  | _ => none }
def interleaveInverseRow : OpenClaim := { program := "ythncpflbojoejaa", sum := "6bc403d41e5beec4efc8c0adda021e364cb74ebdc3aae695870260a866f4d313", func := "stele/stelelaw11.InterleaveInverse", spec := "interleaveInverse", unfollowed := true, recurses := true, apart := false }
def InterleaveInverseSaid : Prop := interleaveInverseRow.holds Try.pinned (OpenSpec.ofChange interleaveInverseSpec)

/-- ITS FALSE NEIGHBOUR: 'it returns false'. Refute it at one input. -/
def interleaveInverseWrong : ChangeSpec := { name := "interleaveInverse", fn := fun _ => fun
  | [d1, d2] => { results := [.lit (.bool false)], args := [d1, d2] }
  | _ => none }
def InterleaveInverseWrongFalsely : Prop := interleaveInverseRow.holds Try.pinned (OpenSpec.ofChange interleaveInverseWrong)

/-- 'stelelaw11.InterleavePermutation': WHATEVER THE INPUT: true; the input reads as it did. -/
def interleavePermutationSpec : ChangeSpec := { name := "interleavePermutation", fn := fun _ => fun
  | [d1, d2] => { results := [.lit (.bool true)], args := [d1, d2] }
  | _ => none }
def interleavePermutationRow : OpenClaim := { program := "ythncpflbojoejaa", sum := "6bc403d41e5beec4efc8c0adda021e364cb74ebdc3aae695870260a866f4d313", func := "stele/stelelaw11.InterleavePermutation", spec := "interleavePermutation", unfollowed := true, recurses := true, apart := false }
def InterleavePermutationSaid : Prop := interleavePermutationRow.holds Try.pinned (OpenSpec.ofChange interleavePermutationSpec)

/-- ITS FALSE NEIGHBOUR: 'it returns false'. Refute it at one input. -/
def interleavePermutationWrong : ChangeSpec := { name := "interleavePermutation", fn := fun _ => fun
  | [d1, d2] => { results := [.lit (.bool false)], args := [d1, d2] }
  | _ => none }
def InterleavePermutationWrongFalsely : Prop := interleavePermutationRow.holds Try.pinned (OpenSpec.ofChange interleavePermutationWrong)

/-- 'stelelaw11.InterleaveSpreads': WHATEVER THE INPUT: true; the input reads as it did. -/
def interleaveSpreadsSpec : ChangeSpec := { name := "interleaveSpreads", fn := fun _ => fun
  | [d1, d2, d3, d4] => { results := [.lit (.bool true)], args := [d1, d2, d3, d4] }
  | _ => none }
def interleaveSpreadsRow : OpenClaim := { program := "ythncpflbojoejaa", sum := "6bc403d41e5beec4efc8c0adda021e364cb74ebdc3aae695870260a866f4d313", func := "stele/stelelaw11.InterleaveSpreads", spec := "interleaveSpreads", unfollowed := true, recurses := true, apart := false }
def InterleaveSpreadsSaid : Prop := interleaveSpreadsRow.holds Try.pinned (OpenSpec.ofChange interleaveSpreadsSpec)

/-- ITS FALSE NEIGHBOUR: 'it returns false'. Refute it at one input. -/
def interleaveSpreadsWrong : ChangeSpec := { name := "interleaveSpreads", fn := fun _ => fun
  | [d1, d2, d3, d4] => { results := [.lit (.bool false)], args := [d1, d2, d3, d4] }
  | _ => none }
def InterleaveSpreadsWrongFalsely : Prop := interleaveSpreadsRow.holds Try.pinned (OpenSpec.ofChange interleaveSpreadsWrong)

/-- 'stelelaw11.InterleaveTransposes': WHATEVER THE INPUT: true; the input reads as it did. -/
def interleaveTransposesSpec : ChangeSpec := { name := "interleaveTransposes", fn := fun _ => fun
  | [d1, d2, d3] => { results := [.lit (.bool true)], args := [d1, d2, d3] }
  | _ => none }
def interleaveTransposesRow : OpenClaim := { program := "ythncpflbojoejaa", sum := "6bc403d41e5beec4efc8c0adda021e364cb74ebdc3aae695870260a866f4d313", func := "stele/stelelaw11.InterleaveTransposes", spec := "interleaveTransposes", unfollowed := true, recurses := true, apart := false }
def InterleaveTransposesSaid : Prop := interleaveTransposesRow.holds Try.pinned (OpenSpec.ofChange interleaveTransposesSpec)

/-- ITS FALSE NEIGHBOUR: 'it returns false'. Refute it at one input. -/
def interleaveTransposesWrong : ChangeSpec := { name := "interleaveTransposes", fn := fun _ => fun
  | [d1, d2, d3] => { results := [.lit (.bool false)], args := [d1, d2, d3] }
  | _ => none }
def InterleaveTransposesWrongFalsely : Prop := interleaveTransposesRow.holds Try.pinned (OpenSpec.ofChange interleaveTransposesWrong)

/-- 'stelelaw11.InterleaveTrivial': WHATEVER THE INPUT: true; the input reads as it did. -/
def interleaveTrivialSpec : ChangeSpec := { name := "interleaveTrivial", fn := fun _ => fun
  | [d1, d2, d3] => { results := [.lit (.bool true)], args := [d1, d2, d3] }
  | _ => none }
def interleaveTrivialRow : OpenClaim := { program := "ythncpflbojoejaa", sum := "6bc403d41e5beec4efc8c0adda021e364cb74ebdc3aae695870260a866f4d313", func := "stele/stelelaw11.InterleaveTrivial", spec := "interleaveTrivial", unfollowed := true, recurses := true, apart := false }
def InterleaveTrivialSaid : Prop := interleaveTrivialRow.holds Try.pinned (OpenSpec.ofChange interleaveTrivialSpec)

/-- ITS FALSE NEIGHBOUR: 'it returns false'. Refute it at one input. -/
def interleaveTrivialWrong : ChangeSpec := { name := "interleaveTrivial", fn := fun _ => fun
  | [d1, d2, d3] => { results := [.lit (.bool false)], args := [d1, d2, d3] }
  | _ => none }
def InterleaveTrivialWrongFalsely : Prop := interleaveTrivialRow.holds Try.pinned (OpenSpec.ofChange interleaveTrivialWrong)

/-- 'stelelaw11.InterleaveDistances': WHATEVER THE INPUT: true; the input reads as it did. -/
def interleaveDistancesSpec : ChangeSpec := { name := "interleaveDistances", fn := fun _ => fun
  | [d1, d2, d3] => { results := [.lit (.bool true)], args := [d1, d2, d3] }
  | _ => none }
def interleaveDistancesRow : OpenClaim := { program := "ythncpflbojoejaa", sum := "6bc403d41e5beec4efc8c0adda021e364cb74ebdc3aae695870260a866f4d313", func := "stele/stelelaw11.InterleaveDistances", spec := "interleaveDistances", unfollowed := true, recurses := true, apart := false }
def InterleaveDistancesSaid : Prop := interleaveDistancesRow.holds Try.pinned (OpenSpec.ofChange interleaveDistancesSpec)

/-- ITS FALSE NEIGHBOUR: 'it returns false'. Refute it at one input. -/
def interleaveDistancesWrong : ChangeSpec := { name := "interleaveDistances", fn := fun _ => fun
  | [d1, d2, d3] => { results := [.lit (.bool false)], args := [d1, d2, d3] }
  | _ => none }
def InterleaveDistancesWrongFalsely : Prop := interleaveDistancesRow.holds Try.pinned (OpenSpec.ofChange interleaveDistancesWrong)

/- THE SECOND FORM. 'bulk': how many values and letters a reading holds, each counted each time it is reached (what is shared counts as often as it is met; a slice's spare places count too). A statement '..UptoSaid' is the law's where the arguments, and the package variables that the reading takes, are together of bulk at most 1048576: NARROWER than '..Said'. Prove '..Said' where nothing that the law and all that it calls make is longer than what came in: it says more and counts as full. Else prove '..UptoSaid'. A law counts once. -/
mutual
def uptoBulk {H : Type} : DataW H → Nat
  | .lit (.string bytes) => bytes.length + 1
  | .lit _ => 1
  | .nil => 1
  | .ptr d => uptoBulk d + 1
  | .slice elems spare => uptoBulkAll elems + uptoBulkAll spare + 1
  | .agg parts => uptoBulkAll parts + 1
  | .iface _ d => uptoBulk d + 1
  | .map entries => uptoBulkEntries entries + 1
  | .held _ => 1
def uptoBulkAll {H : Type} : List (DataW H) → Nat
  | [] => 0
  | d :: r => uptoBulk d + uptoBulkAll r
def uptoBulkEntries {H : Type} : List (Lit × DataW H) → Nat
  | [] => 0
  | x :: r => uptoBulkEntry x + uptoBulkEntries r
def uptoBulkEntry {H : Type} : Lit × DataW H → Nat
  | (.string bytes, d) => bytes.length + uptoBulk d + 1
  | (_, d) => uptoBulk d + 1
 end
def uptoSmall : (H : Type) → List (DataW H) → Bool := fun _ ds => decide (uptoBulkAll ds ≤ 1048576)
def OpenSpec.upto (s : _root_.Go.ChangeSpec) : _root_.Go.OpenSpec := { _root_.Go.OpenSpec.ofChange s with cond := some uptoSmall }

/-- 'stelelaw11.InterleaveValues', WHERE WHAT IT READS IS OF BULK AT MOST 1048576: true; the input reads as it did. -/
def interleaveValuesUptoRow : OpenClaim := { program := "ythncpflbojoejaa", sum := "6bc403d41e5beec4efc8c0adda021e364cb74ebdc3aae695870260a866f4d313", func := "stele/stelelaw11.InterleaveValues", spec := "interleaveValues", unfollowed := true, recurses := true, apart := false, narrowed := true }
def InterleaveValuesUptoSaid : Prop := interleaveValuesUptoRow.holds Try.pinned (OpenSpec.upto interleaveValuesSpec)

/-- 'stelelaw11.InterleaveIndices', WHERE WHAT IT READS IS OF BULK AT MOST 1048576: true; the input reads as it did. -/
def interleaveIndicesUptoRow : OpenClaim := { program := "ythncpflbojoejaa", sum := "6bc403d41e5beec4efc8c0adda021e364cb74ebdc3aae695870260a866f4d313", func := "stele/stelelaw11.InterleaveIndices", spec := "interleaveIndices", unfollowed := true, recurses := true, apart := false, narrowed := true }
def InterleaveIndicesUptoSaid : Prop := interleaveIndicesUptoRow.holds Try.pinned (OpenSpec.upto interleaveIndicesSpec)

/-- 'stelelaw11.InterleaveInverse', WHERE WHAT IT READS IS OF BULK AT MOST 1048576: true; the input reads as it did. -/
def interleaveInverseUptoRow : OpenClaim := { program := "ythncpflbojoejaa", sum := "6bc403d41e5beec4efc8c0adda021e364cb74ebdc3aae695870260a866f4d313", func := "stele/stelelaw11.InterleaveInverse", spec := "interleaveInverse", unfollowed := true, recurses := true, apart := false, narrowed := true }
def InterleaveInverseUptoSaid : Prop := interleaveInverseUptoRow.holds Try.pinned (OpenSpec.upto interleaveInverseSpec)

/-- 'stelelaw11.InterleavePermutation', WHERE WHAT IT READS IS OF BULK AT MOST 1048576: true; the input reads as it did. -/
def interleavePermutationUptoRow : OpenClaim := { program := "ythncpflbojoejaa", sum := "6bc403d41e5beec4efc8c0adda021e364cb74ebdc3aae695870260a866f4d313", func := "stele/stelelaw11.InterleavePermutation", spec := "interleavePermutation", unfollowed := true, recurses := true, apart := false, narrowed := true }
def InterleavePermutationUptoSaid : Prop := interleavePermutationUptoRow.holds Try.pinned (OpenSpec.upto interleavePermutationSpec)

/-- 'stelelaw11.InterleaveSpreads', WHERE WHAT IT READS IS OF BULK AT MOST 1048576: true; the input reads as it did. -/
def interleaveSpreadsUptoRow : OpenClaim := { program := "ythncpflbojoejaa", sum := "6bc403d41e5beec4efc8c0adda021e364cb74ebdc3aae695870260a866f4d313", func := "stele/stelelaw11.InterleaveSpreads", spec := "interleaveSpreads", unfollowed := true, recurses := true, apart := false, narrowed := true }
def InterleaveSpreadsUptoSaid : Prop := interleaveSpreadsUptoRow.holds Try.pinned (OpenSpec.upto interleaveSpreadsSpec)

/-- 'stelelaw11.InterleaveTransposes', WHERE WHAT IT READS IS OF BULK AT MOST 1048576: true; the input reads as it did. -/
def interleaveTransposesUptoRow : OpenClaim := { program := "ythncpflbojoejaa", sum := "6bc403d41e5beec4efc8c0adda021e364cb74ebdc3aae695870260a866f4d313", func := "stele/stelelaw11.InterleaveTransposes", spec := "interleaveTransposes", unfollowed := true, recurses := true, apart := false, narrowed := true }
def InterleaveTransposesUptoSaid : Prop := interleaveTransposesUptoRow.holds Try.pinned (OpenSpec.upto interleaveTransposesSpec)

/-- 'stelelaw11.InterleaveTrivial', WHERE WHAT IT READS IS OF BULK AT MOST 1048576: true; the input reads as it did. -/
def interleaveTrivialUptoRow : OpenClaim := { program := "ythncpflbojoejaa", sum := "6bc403d41e5beec4efc8c0adda021e364cb74ebdc3aae695870260a866f4d313", func := "stele/stelelaw11.InterleaveTrivial", spec := "interleaveTrivial", unfollowed := true, recurses := true, apart := false, narrowed := true }
def InterleaveTrivialUptoSaid : Prop := interleaveTrivialUptoRow.holds Try.pinned (OpenSpec.upto interleaveTrivialSpec)

/-- 'stelelaw11.InterleaveDistances', WHERE WHAT IT READS IS OF BULK AT MOST 1048576: true; the input reads as it did. -/
def interleaveDistancesUptoRow : OpenClaim := { program := "ythncpflbojoejaa", sum := "6bc403d41e5beec4efc8c0adda021e364cb74ebdc3aae695870260a866f4d313", func := "stele/stelelaw11.InterleaveDistances", spec := "interleaveDistances", unfollowed := true, recurses := true, apart := false, narrowed := true }
def InterleaveDistancesUptoSaid : Prop := interleaveDistancesUptoRow.holds Try.pinned (OpenSpec.upto interleaveDistancesSpec)

end Rows
end Go.Proofs.Ythncpflbojoejaa
