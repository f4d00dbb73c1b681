/-
  No cell of these rows narrows 'for every input' (looked for: loops, veiled, ifaces, maps, wideKeys, modest, calm, conditions, laid).
  DERIVED. THE GIVEN ROWS OF THIS SEAT. 8 by the template 'for every input the law returns true; each argument reads behind the call as it read before'; 0 by the template 'total and deterministic' (their statements: YtkjbbhlekadomaaTotals.lean).
  GIVEN WITH THE SEED: the statements are not yours to turn. If you find one false, say at which input.
  Laid BY PROGRAM, IN A SANDBOX (cutbox-rows.mjs): the forced cells as the released guide's own fill.sh prints them over the translation 2d7bbb397670da4b… (all of the seat's roots in one cut). By AI agents, Wed Nov 11 2026. No macro, syntax, notation, axiom, sorry.
-/
import Derived.Test.YtkjbbhlekadomaaChecked
import GoSem.Claim
import GoSem.ClaimJoined
import GoSem.ClaimMapViews
import Derived.JoinedTies
import Derived.KernelRfl
namespace Go.Proofs.Ytkjbbhlekadomaa
/- THE CELL 'sum', in the pinned program and in every row, IS THE sha256 OF THE DUMP (.gsa) THAT YtkjbbhlekadomaaProg.lean LOADS. Nothing in Lean hashes anything: it is a label: what it is worth is what the hold of that sum in a sandbox is worth. -/
noncomputable def Try.pinned : Pinned := { name := "ytkjbbhlekadomaa", sum := "2d7bbb397670da4b83c2a2385a65de5e407ba4b215ed64d62443e915e1339516", checked := Try.checked }
namespace Rows
def none {H : Type} : Left H := { results := [], args := [] }

/-- 'stelelaw01.CellsCheck': WHATEVER THE INPUT: true; the input reads as it did. -/
def cellsCheckSpec : ChangeSpec := { name := "cellsCheck", fn := fun _ => fun
  | [d] => { results := [.lit (.bool true)], args := [d] }
  | _ => none }
def cellsCheckRow : OpenClaim := { program := "ytkjbbhlekadomaa", sum := "2d7bbb397670da4b83c2a2385a65de5e407ba4b215ed64d62443e915e1339516", func := "stele/stelelaw01.CellsCheck", spec := "cellsCheck", apart := false }
def CellsCheckSaid : Prop := cellsCheckRow.holds Try.pinned (OpenSpec.ofChange cellsCheckSpec)

/-- ITS FALSE NEIGHBOUR: 'it returns false'. Refute it at one input. -/
def cellsCheckWrong : ChangeSpec := { name := "cellsCheck", fn := fun _ => fun
  | [d] => { results := [.lit (.bool false)], args := [d] }
  | _ => none }
def CellsCheckWrongFalsely : Prop := cellsCheckRow.holds Try.pinned (OpenSpec.ofChange cellsCheckWrong)

/-- 'stelelaw01.CellsBytes': WHATEVER THE INPUT: true; the input reads as it did. -/
def cellsBytesSpec : ChangeSpec := { name := "cellsBytes", fn := fun _ => fun
  | [d1, d2] => { results := [.lit (.bool true)], args := [d1, d2] }
  | _ => none }
def cellsBytesRow : OpenClaim := { program := "ytkjbbhlekadomaa", sum := "2d7bbb397670da4b83c2a2385a65de5e407ba4b215ed64d62443e915e1339516", func := "stele/stelelaw01.CellsBytes", spec := "cellsBytes", apart := false }
def CellsBytesSaid : Prop := cellsBytesRow.holds Try.pinned (OpenSpec.ofChange cellsBytesSpec)

/-- ITS FALSE NEIGHBOUR: 'it returns false'. Refute it at one input. -/
def cellsBytesWrong : ChangeSpec := { name := "cellsBytes", fn := fun _ => fun
  | [d1, d2] => { results := [.lit (.bool false)], args := [d1, d2] }
  | _ => none }
def CellsBytesWrongFalsely : Prop := cellsBytesRow.holds Try.pinned (OpenSpec.ofChange cellsBytesWrong)

/-- 'stelelaw01.CellsDistance': WHATEVER THE INPUT: true; the input reads as it did. -/
def cellsDistanceSpec : ChangeSpec := { name := "cellsDistance", fn := fun _ => fun
  | [d1, d2] => { results := [.lit (.bool true)], args := [d1, d2] }
  | _ => none }
def cellsDistanceRow : OpenClaim := { program := "ytkjbbhlekadomaa", sum := "2d7bbb397670da4b83c2a2385a65de5e407ba4b215ed64d62443e915e1339516", func := "stele/stelelaw01.CellsDistance", spec := "cellsDistance", apart := false }
def CellsDistanceSaid : Prop := cellsDistanceRow.holds Try.pinned (OpenSpec.ofChange cellsDistanceSpec)

/-- ITS FALSE NEIGHBOUR: 'it returns false'. Refute it at one input. -/
def cellsDistanceWrong : ChangeSpec := { name := "cellsDistance", fn := fun _ => fun
  | [d1, d2] => { results := [.lit (.bool false)], args := [d1, d2] }
  | _ => none }
def CellsDistanceWrongFalsely : Prop := cellsDistanceRow.holds Try.pinned (OpenSpec.ofChange cellsDistanceWrong)

/-- 'stelelaw01.CellsRoundTrip': WHATEVER THE INPUT: true; the input reads as it did. -/
def cellsRoundTripSpec : ChangeSpec := { name := "cellsRoundTrip", fn := fun _ => fun
  | [d1, d2] => { results := [.lit (.bool true)], args := [d1, d2] }
  | _ => none }
def cellsRoundTripRow : OpenClaim := { program := "ytkjbbhlekadomaa", sum := "2d7bbb397670da4b83c2a2385a65de5e407ba4b215ed64d62443e915e1339516", func := "stele/stelelaw01.CellsRoundTrip", spec := "cellsRoundTrip", apart := false }
def CellsRoundTripSaid : Prop := cellsRoundTripRow.holds Try.pinned (OpenSpec.ofChange cellsRoundTripSpec)

/-- ITS FALSE NEIGHBOUR: 'it returns false'. Refute it at one input. -/
def cellsRoundTripWrong : ChangeSpec := { name := "cellsRoundTrip", fn := fun _ => fun
  | [d1, d2] => { results := [.lit (.bool false)], args := [d1, d2] }
  | _ => none }
def CellsRoundTripWrongFalsely : Prop := cellsRoundTripRow.holds Try.pinned (OpenSpec.ofChange cellsRoundTripWrong)

/-- 'stelelaw01.CellsErasure': WHATEVER THE INPUT: true; the input reads as it did. -/
def cellsErasureSpec : ChangeSpec := { name := "cellsErasure", fn := fun _ => fun
  | [d1, d2] => { results := [.lit (.bool true)], args := [d1, d2] }
  | _ => none }
def cellsErasureRow : OpenClaim := { program := "ytkjbbhlekadomaa", sum := "2d7bbb397670da4b83c2a2385a65de5e407ba4b215ed64d62443e915e1339516", func := "stele/stelelaw01.CellsErasure", spec := "cellsErasure", inPlace := ["internal/bytealg.CountString", "internal/bytealg.IndexByteString", "internal/bytealg.IndexString"], named := ["internal/bytealg.MaxLen"], apart := false }
def CellsErasureSaid : Prop := cellsErasureRow.holds Try.pinned (OpenSpec.ofChange cellsErasureSpec)

/-- ITS FALSE NEIGHBOUR: 'it returns false'. Refute it at one input. -/
def cellsErasureWrong : ChangeSpec := { name := "cellsErasure", fn := fun _ => fun
  | [d1, d2] => { results := [.lit (.bool false)], args := [d1, d2] }
  | _ => none }
def CellsErasureWrongFalsely : Prop := cellsErasureRow.holds Try.pinned (OpenSpec.ofChange cellsErasureWrong)

/-- 'stelelaw01.CellsMetric': WHATEVER THE INPUT: true; the input reads as it did. -/
def cellsMetricSpec : ChangeSpec := { name := "cellsMetric", fn := fun _ => fun
  | [d1, d2, d3] => { results := [.lit (.bool true)], args := [d1, d2, d3] }
  | _ => none }
def cellsMetricRow : OpenClaim := { program := "ytkjbbhlekadomaa", sum := "2d7bbb397670da4b83c2a2385a65de5e407ba4b215ed64d62443e915e1339516", func := "stele/stelelaw01.CellsMetric", spec := "cellsMetric", inPlace := ["internal/bytealg.IndexByteString", "internal/bytealg.IndexString"], unfollowed := true, recurses := true, named := ["internal/bytealg.MaxLen"], apart := false }
def CellsMetricSaid : Prop := cellsMetricRow.holds Try.pinned (OpenSpec.ofChange cellsMetricSpec)

/-- ITS FALSE NEIGHBOUR: 'it returns false'. Refute it at one input. -/
def cellsMetricWrong : ChangeSpec := { name := "cellsMetric", fn := fun _ => fun
  | [d1, d2, d3] => { results := [.lit (.bool false)], args := [d1, d2, d3] }
  | _ => none }
def CellsMetricWrongFalsely : Prop := cellsMetricRow.holds Try.pinned (OpenSpec.ofChange cellsMetricWrong)

/-- 'stelelaw01.CellsInvert': WHATEVER THE INPUT: true; the input reads as it did. -/
def cellsInvertSpec : ChangeSpec := { name := "cellsInvert", fn := fun _ => fun
  | [d] => { results := [.lit (.bool true)], args := [d] }
  | _ => none }
def cellsInvertRow : OpenClaim := { program := "ytkjbbhlekadomaa", sum := "2d7bbb397670da4b83c2a2385a65de5e407ba4b215ed64d62443e915e1339516", func := "stele/stelelaw01.CellsInvert", spec := "cellsInvert", apart := false }
def CellsInvertSaid : Prop := cellsInvertRow.holds Try.pinned (OpenSpec.ofChange cellsInvertSpec)

/-- ITS FALSE NEIGHBOUR: 'it returns false'. Refute it at one input. -/
def cellsInvertWrong : ChangeSpec := { name := "cellsInvert", fn := fun _ => fun
  | [d] => { results := [.lit (.bool false)], args := [d] }
  | _ => none }
def CellsInvertWrongFalsely : Prop := cellsInvertRow.holds Try.pinned (OpenSpec.ofChange cellsInvertWrong)

/-- 'stelelaw01.CellsLinear': WHATEVER THE INPUT: true; the input reads as it did. -/
def cellsLinearSpec : ChangeSpec := { name := "cellsLinear", fn := fun _ => fun
  | [d1, d2] => { results := [.lit (.bool true)], args := [d1, d2] }
  | _ => none }
def cellsLinearRow : OpenClaim := { program := "ytkjbbhlekadomaa", sum := "2d7bbb397670da4b83c2a2385a65de5e407ba4b215ed64d62443e915e1339516", func := "stele/stelelaw01.CellsLinear", spec := "cellsLinear", apart := false }
def CellsLinearSaid : Prop := cellsLinearRow.holds Try.pinned (OpenSpec.ofChange cellsLinearSpec)

/-- ITS FALSE NEIGHBOUR: 'it returns false'. Refute it at one input. -/
def cellsLinearWrong : ChangeSpec := { name := "cellsLinear", fn := fun _ => fun
  | [d1, d2] => { results := [.lit (.bool false)], args := [d1, d2] }
  | _ => none }
def CellsLinearWrongFalsely : Prop := cellsLinearRow.holds Try.pinned (OpenSpec.ofChange cellsLinearWrong)

/- THE SECOND FORM. 'bulk': how many values and letters a reading holds, each counted each time it is reached (what is shared counts as often as it is met; a slice's spare places count too). A statement '..UptoSaid' is the law's where the arguments, and the package variables that the reading takes, are together of bulk at most 1048576: NARROWER than '..Said'. Prove '..Said' where nothing that the law and all that it calls make is longer than what came in: it says more and counts as full. Else prove '..UptoSaid'. A law counts once. -/
mutual
def uptoBulk {H : Type} : DataW H → Nat
  | .lit (.string bytes) => bytes.length + 1
  | .lit _ => 1
  | .nil => 1
  | .ptr d => uptoBulk d + 1
  | .slice elems spare => uptoBulkAll elems + uptoBulkAll spare + 1
  | .agg parts => uptoBulkAll parts + 1
  | .iface _ d => uptoBulk d + 1
  | .map entries => uptoBulkEntries entries + 1
  | .held _ => 1
def uptoBulkAll {H : Type} : List (DataW H) → Nat
  | [] => 0
  | d :: r => uptoBulk d + uptoBulkAll r
def uptoBulkEntries {H : Type} : List (Lit × DataW H) → Nat
  | [] => 0
  | x :: r => uptoBulkEntry x + uptoBulkEntries r
def uptoBulkEntry {H : Type} : Lit × DataW H → Nat
  | (.string bytes, d) => bytes.length + uptoBulk d + 1
  | (_, d) => uptoBulk d + 1
 end
def uptoSmall : (H : Type) → List (DataW H) → Bool := fun _ ds => decide (uptoBulkAll ds ≤ 1048576)
def OpenSpec.upto (s : _root_.Go.ChangeSpec) : _root_.Go.OpenSpec := { _root_.Go.OpenSpec.ofChange s with cond := some uptoSmall }

/-- 'stelelaw01.CellsCheck', WHERE WHAT IT READS IS OF BULK AT MOST 1048576: true; the input reads as it did. -/
def cellsCheckUptoRow : OpenClaim := { program := "ytkjbbhlekadomaa", sum := "2d7bbb397670da4b83c2a2385a65de5e407ba4b215ed64d62443e915e1339516", func := "stele/stelelaw01.CellsCheck", spec := "cellsCheck", apart := false, narrowed := true }
def CellsCheckUptoSaid : Prop := cellsCheckUptoRow.holds Try.pinned (OpenSpec.upto cellsCheckSpec)

/-- 'stelelaw01.CellsBytes', WHERE WHAT IT READS IS OF BULK AT MOST 1048576: true; the input reads as it did. -/
def cellsBytesUptoRow : OpenClaim := { program := "ytkjbbhlekadomaa", sum := "2d7bbb397670da4b83c2a2385a65de5e407ba4b215ed64d62443e915e1339516", func := "stele/stelelaw01.CellsBytes", spec := "cellsBytes", apart := false, narrowed := true }
def CellsBytesUptoSaid : Prop := cellsBytesUptoRow.holds Try.pinned (OpenSpec.upto cellsBytesSpec)

/-- 'stelelaw01.CellsDistance', WHERE WHAT IT READS IS OF BULK AT MOST 1048576: true; the input reads as it did. -/
def cellsDistanceUptoRow : OpenClaim := { program := "ytkjbbhlekadomaa", sum := "2d7bbb397670da4b83c2a2385a65de5e407ba4b215ed64d62443e915e1339516", func := "stele/stelelaw01.CellsDistance", spec := "cellsDistance", apart := false, narrowed := true }
def CellsDistanceUptoSaid : Prop := cellsDistanceUptoRow.holds Try.pinned (OpenSpec.upto cellsDistanceSpec)

/-- 'stelelaw01.CellsRoundTrip', WHERE WHAT IT READS IS OF BULK AT MOST 1048576: true; the input reads as it did. -/
def cellsRoundTripUptoRow : OpenClaim := { program := "ytkjbbhlekadomaa", sum := "2d7bbb397670da4b83c2a2385a65de5e407ba4b215ed64d62443e915e1339516", func := "stele/stelelaw01.CellsRoundTrip", spec := "cellsRoundTrip", apart := false, narrowed := true }
def CellsRoundTripUptoSaid : Prop := cellsRoundTripUptoRow.holds Try.pinned (OpenSpec.upto cellsRoundTripSpec)

/-- 'stelelaw01.CellsErasure', WHERE WHAT IT READS IS OF BULK AT MOST 1048576: true; the input reads as it did. -/
def cellsErasureUptoRow : OpenClaim := { program := "ytkjbbhlekadomaa", sum := "2d7bbb397670da4b83c2a2385a65de5e407ba4b215ed64d62443e915e1339516", func := "stele/stelelaw01.CellsErasure", spec := "cellsErasure", inPlace := ["internal/bytealg.CountString", "internal/bytealg.IndexByteString", "internal/bytealg.IndexString"], named := ["internal/bytealg.MaxLen"], apart := false, narrowed := true }
def CellsErasureUptoSaid : Prop := cellsErasureUptoRow.holds Try.pinned (OpenSpec.upto cellsErasureSpec)

/-- 'stelelaw01.CellsMetric', WHERE WHAT IT READS IS OF BULK AT MOST 1048576: true; the input reads as it did. -/
def cellsMetricUptoRow : OpenClaim := { program := "ytkjbbhlekadomaa", sum := "2d7bbb397670da4b83c2a2385a65de5e407ba4b215ed64d62443e915e1339516", func := "stele/stelelaw01.CellsMetric", spec := "cellsMetric", inPlace := ["internal/bytealg.IndexByteString", "internal/bytealg.IndexString"], unfollowed := true, recurses := true, named := ["internal/bytealg.MaxLen"], apart := false, narrowed := true }
def CellsMetricUptoSaid : Prop := cellsMetricUptoRow.holds Try.pinned (OpenSpec.upto cellsMetricSpec)

/-- 'stelelaw01.CellsInvert', WHERE WHAT IT READS IS OF BULK AT MOST 1048576: true; the input reads as it did. -/
def cellsInvertUptoRow : OpenClaim := { program := "ytkjbbhlekadomaa", sum := "2d7bbb397670da4b83c2a2385a65de5e407ba4b215ed64d62443e915e1339516", func := "stele/stelelaw01.CellsInvert", spec := "cellsInvert", apart := false, narrowed := true }
def CellsInvertUptoSaid : Prop := cellsInvertUptoRow.holds Try.pinned (OpenSpec.upto cellsInvertSpec)

/-- 'stelelaw01.CellsLinear', WHERE WHAT IT READS IS OF BULK AT MOST 1048576: true; the input reads as it did. -/
def cellsLinearUptoRow : OpenClaim := { program := "ytkjbbhlekadomaa", sum := "2d7bbb397670da4b83c2a2385a65de5e407ba4b215ed64d62443e915e1339516", func := "stele/stelelaw01.CellsLinear", spec := "cellsLinear", apart := false, narrowed := true }
def CellsLinearUptoSaid : Prop := cellsLinearUptoRow.holds Try.pinned (OpenSpec.upto cellsLinearSpec)

end Rows
end Go.Proofs.Ytkjbbhlekadomaa
