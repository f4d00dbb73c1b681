/-
  No cell of these rows narrows 'for every input' (looked for: loops, veiled, ifaces, maps, wideKeys, modest, calm, conditions, laid).
  DERIVED. THE GIVEN ROWS OF THIS SEAT. 5 by the template 'for every input the law returns true; each argument reads behind the call as it read before'; 0 by the template 'total and deterministic' (their statements: YtfdlgdgjbfoogaaTotals.lean).
  GIVEN WITH THE SEED: the statements are not yours to turn. If you find one false, say at which input.
  Laid BY PROGRAM, IN A SANDBOX (cutbox-rows.mjs): the forced cells as the released guide's own fill.sh prints them over the translation 81ec6d9543a431b5… (all of the seat's roots in one cut). By AI agents, Wed Nov 11 2026. No macro, syntax, notation, axiom, sorry.
-/
import Derived.Test.YtfdlgdgjbfoogaaChecked
import GoSem.Claim
import GoSem.ClaimJoined
import GoSem.ClaimMapViews
import Derived.JoinedTies
import Derived.KernelRfl
namespace Go.Proofs.Ytfdlgdgjbfoogaa
/- THE CELL 'sum', in the pinned program and in every row, IS THE sha256 OF THE DUMP (.gsa) THAT YtfdlgdgjbfoogaaProg.lean LOADS. Nothing in Lean hashes anything: it is a label: what it is worth is what the hold of that sum in a sandbox is worth. -/
noncomputable def Try.pinned : Pinned := { name := "ytfdlgdgjbfoogaa", sum := "81ec6d9543a431b5b5b2907ab08e3bd370d60dc3fd37ffdbc3fa6386b7d35f13", checked := Try.checked }
namespace Rows
def none {H : Type} : Left H := { results := [], args := [] }

/-- 'stelelaw17.MachineRuns': WHATEVER THE INPUT: true; the input reads as it did. -/
def machineRunsSpec : ChangeSpec := { name := "machineRuns", fn := fun _ => fun
  | [d1, d2, d3] => { results := [.lit (.bool true)], args := [d1, d2, d3] }
  | _ => none }
def machineRunsRow : OpenClaim := { program := "ytfdlgdgjbfoogaa", sum := "81ec6d9543a431b5b5b2907ab08e3bd370d60dc3fd37ffdbc3fa6386b7d35f13", func := "stele/stelelaw17.MachineRuns", spec := "machineRuns", unfollowed := true, recurses := true, apart := false }
def MachineRunsSaid : Prop := machineRunsRow.holds Try.pinned (OpenSpec.ofChange machineRunsSpec)

/-- ITS FALSE NEIGHBOUR: 'it returns false'. Refute it at one input. -/
def machineRunsWrong : ChangeSpec := { name := "machineRuns", fn := fun _ => fun
  | [d1, d2, d3] => { results := [.lit (.bool false)], args := [d1, d2, d3] }
  | _ => none }
def MachineRunsWrongFalsely : Prop := machineRunsRow.holds Try.pinned (OpenSpec.ofChange machineRunsWrong)

/-- 'stelelaw17.MachinePrefix': WHATEVER THE INPUT: true; the input reads as it did. -/
def machinePrefixSpec : ChangeSpec := { name := "machinePrefix", fn := fun _ => fun
  | [d1, d2, d3] => { results := [.lit (.bool true)], args := [d1, d2, d3] }
  | _ => none }
def machinePrefixRow : OpenClaim := { program := "ytfdlgdgjbfoogaa", sum := "81ec6d9543a431b5b5b2907ab08e3bd370d60dc3fd37ffdbc3fa6386b7d35f13", func := "stele/stelelaw17.MachinePrefix", spec := "machinePrefix", unfollowed := true, recurses := true, apart := false }
def MachinePrefixSaid : Prop := machinePrefixRow.holds Try.pinned (OpenSpec.ofChange machinePrefixSpec)

/-- ITS FALSE NEIGHBOUR: 'it returns false'. Refute it at one input. -/
def machinePrefixWrong : ChangeSpec := { name := "machinePrefix", fn := fun _ => fun
  | [d1, d2, d3] => { results := [.lit (.bool false)], args := [d1, d2, d3] }
  | _ => none }
def MachinePrefixWrongFalsely : Prop := machinePrefixRow.holds Try.pinned (OpenSpec.ofChange machinePrefixWrong)

/-- 'stelelaw17.MachineEcho': WHATEVER THE INPUT: true; the input reads as it did. -/
def machineEchoSpec : ChangeSpec := { name := "machineEcho", fn := fun _ => fun
  | [d] => { results := [.lit (.bool true)], args := [d] }
  | _ => none }
def machineEchoRow : OpenClaim := { program := "ytfdlgdgjbfoogaa", sum := "81ec6d9543a431b5b5b2907ab08e3bd370d60dc3fd37ffdbc3fa6386b7d35f13", func := "stele/stelelaw17.MachineEcho", spec := "machineEcho", unfollowed := true, recurses := true, apart := false }
def MachineEchoSaid : Prop := machineEchoRow.holds Try.pinned (OpenSpec.ofChange machineEchoSpec)

/-- ITS FALSE NEIGHBOUR: 'it returns false'. Refute it at one input. -/
def machineEchoWrong : ChangeSpec := { name := "machineEcho", fn := fun _ => fun
  | [d] => { results := [.lit (.bool false)], args := [d] }
  | _ => none }
def MachineEchoWrongFalsely : Prop := machineEchoRow.holds Try.pinned (OpenSpec.ofChange machineEchoWrong)

/-- 'stelelaw17.MachineSpaces': WHATEVER THE INPUT: true; the input reads as it did. -/
def machineSpacesSpec : ChangeSpec := { name := "machineSpaces", fn := fun _ => fun
  | [d1, d2, d3] => { results := [.lit (.bool true)], args := [d1, d2, d3] }
  | _ => none }
def machineSpacesRow : OpenClaim := { program := "ytfdlgdgjbfoogaa", sum := "81ec6d9543a431b5b5b2907ab08e3bd370d60dc3fd37ffdbc3fa6386b7d35f13", func := "stele/stelelaw17.MachineSpaces", spec := "machineSpaces", inPlace := ["internal/bytealg.IndexByteString", "internal/bytealg.IndexString", "internal/abi.NoEscape"], unfollowed := true, recurses := true, named := ["internal/bytealg.MaxLen"], apart := false }
def MachineSpacesSaid : Prop := machineSpacesRow.holds Try.pinned (OpenSpec.ofChange machineSpacesSpec)

/-- ITS FALSE NEIGHBOUR: 'it returns false'. Refute it at one input. -/
def machineSpacesWrong : ChangeSpec := { name := "machineSpaces", fn := fun _ => fun
  | [d1, d2, d3] => { results := [.lit (.bool false)], args := [d1, d2, d3] }
  | _ => none }
def MachineSpacesWrongFalsely : Prop := machineSpacesRow.holds Try.pinned (OpenSpec.ofChange machineSpacesWrong)

/-- 'stelelaw17.MachinePlacing': WHATEVER THE INPUT: true; the input reads as it did. -/
def machinePlacingSpec : ChangeSpec := { name := "machinePlacing", fn := fun _ => fun
  | [d1, d2, d3] => { results := [.lit (.bool true)], args := [d1, d2, d3] }
  | _ => none }
def machinePlacingRow : OpenClaim := { program := "ytfdlgdgjbfoogaa", sum := "81ec6d9543a431b5b5b2907ab08e3bd370d60dc3fd37ffdbc3fa6386b7d35f13", func := "stele/stelelaw17.MachinePlacing", spec := "machinePlacing", inPlace := ["internal/abi.NoEscape", "internal/bytealg.MakeNoZero"], unfollowed := true, recurses := true, apart := false }
def MachinePlacingSaid : Prop := machinePlacingRow.holds Try.pinned (OpenSpec.ofChange machinePlacingSpec)

/-- ITS FALSE NEIGHBOUR: 'it returns false'. Refute it at one input. -/
def machinePlacingWrong : ChangeSpec := { name := "machinePlacing", fn := fun _ => fun
  | [d1, d2, d3] => { results := [.lit (.bool false)], args := [d1, d2, d3] }
  | _ => none }
def MachinePlacingWrongFalsely : Prop := machinePlacingRow.holds Try.pinned (OpenSpec.ofChange machinePlacingWrong)

/- THE SECOND FORM. 'bulk': how many values and letters a reading holds, each counted each time it is reached (what is shared counts as often as it is met; a slice's spare places count too). A statement '..UptoSaid' is the law's where the arguments, and the package variables that the reading takes, are together of bulk at most 1048576: NARROWER than '..Said'. Prove '..Said' where nothing that the law and all that it calls make is longer than what came in: it says more and counts as full. Else prove '..UptoSaid'. A law counts once. -/
mutual
def uptoBulk {H : Type} : DataW H → Nat
  | .lit (.string bytes) => bytes.length + 1
  | .lit _ => 1
  | .nil => 1
  | .ptr d => uptoBulk d + 1
  | .slice elems spare => uptoBulkAll elems + uptoBulkAll spare + 1
  | .agg parts => uptoBulkAll parts + 1
  | .iface _ d => uptoBulk d + 1
  | .map entries => uptoBulkEntries entries + 1
  | .held _ => 1
def uptoBulkAll {H : Type} : List (DataW H) → Nat
  | [] => 0
  | d :: r => uptoBulk d + uptoBulkAll r
def uptoBulkEntries {H : Type} : List (Lit × DataW H) → Nat
  | [] => 0
  | x :: r => uptoBulkEntry x + uptoBulkEntries r
def uptoBulkEntry {H : Type} : Lit × DataW H → Nat
  | (.string bytes, d) => bytes.length + uptoBulk d + 1
  | (_, d) => uptoBulk d + 1
 end
def uptoSmall : (H : Type) → List (DataW H) → Bool := fun _ ds => decide (uptoBulkAll ds ≤ 1048576)
def OpenSpec.upto (s : _root_.Go.ChangeSpec) : _root_.Go.OpenSpec := { _root_.Go.OpenSpec.ofChange s with cond := some uptoSmall }

/-- 'stelelaw17.MachineRuns', WHERE WHAT IT READS IS OF BULK AT MOST 1048576: true; the input reads as it did. -/
def machineRunsUptoRow : OpenClaim := { program := "ytfdlgdgjbfoogaa", sum := "81ec6d9543a431b5b5b2907ab08e3bd370d60dc3fd37ffdbc3fa6386b7d35f13", func := "stele/stelelaw17.MachineRuns", spec := "machineRuns", unfollowed := true, recurses := true, apart := false, narrowed := true }
def MachineRunsUptoSaid : Prop := machineRunsUptoRow.holds Try.pinned (OpenSpec.upto machineRunsSpec)

/-- 'stelelaw17.MachinePrefix', WHERE WHAT IT READS IS OF BULK AT MOST 1048576: true; the input reads as it did. -/
def machinePrefixUptoRow : OpenClaim := { program := "ytfdlgdgjbfoogaa", sum := "81ec6d9543a431b5b5b2907ab08e3bd370d60dc3fd37ffdbc3fa6386b7d35f13", func := "stele/stelelaw17.MachinePrefix", spec := "machinePrefix", unfollowed := true, recurses := true, apart := false, narrowed := true }
def MachinePrefixUptoSaid : Prop := machinePrefixUptoRow.holds Try.pinned (OpenSpec.upto machinePrefixSpec)

/-- 'stelelaw17.MachineEcho', WHERE WHAT IT READS IS OF BULK AT MOST 1048576: true; the input reads as it did. -/
def machineEchoUptoRow : OpenClaim := { program := "ytfdlgdgjbfoogaa", sum := "81ec6d9543a431b5b5b2907ab08e3bd370d60dc3fd37ffdbc3fa6386b7d35f13", func := "stele/stelelaw17.MachineEcho", spec := "machineEcho", unfollowed := true, recurses := true, apart := false, narrowed := true }
def MachineEchoUptoSaid : Prop := machineEchoUptoRow.holds Try.pinned (OpenSpec.upto machineEchoSpec)

/-- 'stelelaw17.MachineSpaces', WHERE WHAT IT READS IS OF BULK AT MOST 1048576: true; the input reads as it did. -/
def machineSpacesUptoRow : OpenClaim := { program := "ytfdlgdgjbfoogaa", sum := "81ec6d9543a431b5b5b2907ab08e3bd370d60dc3fd37ffdbc3fa6386b7d35f13", func := "stele/stelelaw17.MachineSpaces", spec := "machineSpaces", inPlace := ["internal/bytealg.IndexByteString", "internal/bytealg.IndexString", "internal/abi.NoEscape"], unfollowed := true, recurses := true, named := ["internal/bytealg.MaxLen"], apart := false, narrowed := true }
def MachineSpacesUptoSaid : Prop := machineSpacesUptoRow.holds Try.pinned (OpenSpec.upto machineSpacesSpec)

/-- 'stelelaw17.MachinePlacing', WHERE WHAT IT READS IS OF BULK AT MOST 1048576: true; the input reads as it did. -/
def machinePlacingUptoRow : OpenClaim := { program := "ytfdlgdgjbfoogaa", sum := "81ec6d9543a431b5b5b2907ab08e3bd370d60dc3fd37ffdbc3fa6386b7d35f13", func := "stele/stelelaw17.MachinePlacing", spec := "machinePlacing", inPlace := ["internal/abi.NoEscape", "internal/bytealg.MakeNoZero"], unfollowed := true, recurses := true, apart := false, narrowed := true }
def MachinePlacingUptoSaid : Prop := machinePlacingUptoRow.holds Try.pinned (OpenSpec.upto machinePlacingSpec)

end Rows
end Go.Proofs.Ytfdlgdgjbfoogaa
