/-
  No cell of these rows narrows 'for every input' (looked for: loops, veiled, ifaces, maps, wideKeys, modest, calm, conditions, laid).
  DERIVED. THE GIVEN ROWS OF THIS SEAT. 8 by the template 'for every input the law returns true; each argument reads behind the call as it read before'; 0 by the template 'total and deterministic' (their statements: YthbhjbbgghpiaaaTotals.lean).
  GIVEN WITH THE SEED: the statements are not yours to turn. If you find one false, say at which input.
  Laid BY PROGRAM, IN A SANDBOX (cutbox-rows.mjs): the forced cells as the released guide's own fill.sh prints them over the translation 09a76332f062ebd0… (all of the seat's roots in one cut). By AI agents, Wed Nov 11 2026. No macro, syntax, notation, axiom, sorry.
-/
import Derived.Test.YthbhjbbgghpiaaaChecked
import GoSem.Claim
import GoSem.ClaimJoined
import GoSem.ClaimMapViews
import Derived.JoinedTies
import Derived.KernelRfl
namespace Go.Proofs.Ythbhjbbgghpiaaa
/- THE CELL 'sum', in the pinned program and in every row, IS THE sha256 OF THE DUMP (.gsa) THAT YthbhjbbgghpiaaaProg.lean LOADS. Nothing in Lean hashes anything: it is a label: what it is worth is what the hold of that sum in a sandbox is worth. -/
noncomputable def Try.pinned : Pinned := { name := "ythbhjbbgghpiaaa", sum := "09a76332f062ebd0706f86e43f77a2ea804179b1b96ee24e32c939bb7f681ec9", checked := Try.checked }
namespace Rows
def none {H : Type} : Left H := { results := [], args := [] }

/-- 'stelelaw09.ConvcodeEncodes': WHATEVER THE INPUT: true; the input reads as it did. -/
def convcodeEncodesSpec : ChangeSpec := { name := "convcodeEncodes", fn := fun _ => fun
  | [d] => { results := [.lit (.bool true)], args := [d] }
  | _ => none }
def convcodeEncodesRow : OpenClaim := { program := "ythbhjbbgghpiaaa", sum := "09a76332f062ebd0706f86e43f77a2ea804179b1b96ee24e32c939bb7f681ec9", func := "stele/stelelaw09.ConvcodeEncodes", spec := "convcodeEncodes", inPlace := ["internal/bytealg.IndexByteString", "internal/abi.NoEscape", "internal/bytealg.CountString", "internal/bytealg.IndexString"], unfollowed := true, recurses := true, named := ["internal/bytealg.MaxLen"], apart := false }
def ConvcodeEncodesSaid : Prop := convcodeEncodesRow.holds Try.pinned (OpenSpec.ofChange convcodeEncodesSpec)

/-- ITS FALSE NEIGHBOUR: 'it returns false'. Refute it at one input. -/
def convcodeEncodesWrong : ChangeSpec := { name := "convcodeEncodes", fn := fun _ => fun
  | [d] => { results := [.lit (.bool false)], args := [d] }
  | _ => none }
def ConvcodeEncodesWrongFalsely : Prop := convcodeEncodesRow.holds Try.pinned (OpenSpec.ofChange convcodeEncodesWrong)

/-- 'stelelaw09.ConvcodeExtracts': WHATEVER THE INPUT: true; the input reads as it did. -/
def convcodeExtractsSpec : ChangeSpec := { name := "convcodeExtracts", fn := fun _ => fun
  | [d] => { results := [.lit (.bool true)], args := [d] }
  | _ => none }
def convcodeExtractsRow : OpenClaim := { program := "ythbhjbbgghpiaaa", sum := "09a76332f062ebd0706f86e43f77a2ea804179b1b96ee24e32c939bb7f681ec9", func := "stele/stelelaw09.ConvcodeExtracts", spec := "convcodeExtracts", inPlace := ["internal/bytealg.IndexByteString", "internal/abi.NoEscape"], unfollowed := true, recurses := true, apart := false }
def ConvcodeExtractsSaid : Prop := convcodeExtractsRow.holds Try.pinned (OpenSpec.ofChange convcodeExtractsSpec)

/-- ITS FALSE NEIGHBOUR: 'it returns false'. Refute it at one input. -/
def convcodeExtractsWrong : ChangeSpec := { name := "convcodeExtracts", fn := fun _ => fun
  | [d] => { results := [.lit (.bool false)], args := [d] }
  | _ => none }
def ConvcodeExtractsWrongFalsely : Prop := convcodeExtractsRow.holds Try.pinned (OpenSpec.ofChange convcodeExtractsWrong)

/-- 'stelelaw09.ConvcodeSteps': WHATEVER THE INPUT: true; the input reads as it did. -/
def convcodeStepsSpec : ChangeSpec := { name := "convcodeSteps", fn := fun _ => fun
  | [d1, d2, d3] => { results := [.lit (.bool true)], args := [d1, d2, d3] }
  | _ => none }
def convcodeStepsRow : OpenClaim := { program := "ythbhjbbgghpiaaa", sum := "09a76332f062ebd0706f86e43f77a2ea804179b1b96ee24e32c939bb7f681ec9", func := "stele/stelelaw09.ConvcodeSteps", spec := "convcodeSteps", inPlace := ["internal/bytealg.IndexByteString", "internal/abi.NoEscape"], unfollowed := true, recurses := true, apart := false }
def ConvcodeStepsSaid : Prop := convcodeStepsRow.holds Try.pinned (OpenSpec.ofChange convcodeStepsSpec)

/-- ITS FALSE NEIGHBOUR: 'it returns false'. Refute it at one input. -/
def convcodeStepsWrong : ChangeSpec := { name := "convcodeSteps", fn := fun _ => fun
  | [d1, d2, d3] => { results := [.lit (.bool false)], args := [d1, d2, d3] }
  | _ => none }
def ConvcodeStepsWrongFalsely : Prop := convcodeStepsRow.holds Try.pinned (OpenSpec.ofChange convcodeStepsWrong)

/-- 'stelelaw09.ConvcodeRoundTrip': WHATEVER THE INPUT: true; the input reads as it did. -/
def convcodeRoundTripSpec : ChangeSpec := { name := "convcodeRoundTrip", fn := fun _ => fun
  | [d1, d2, d3] => { results := [.lit (.bool true)], args := [d1, d2, d3] }
  | _ => none }
def convcodeRoundTripRow : OpenClaim := { program := "ythbhjbbgghpiaaa", sum := "09a76332f062ebd0706f86e43f77a2ea804179b1b96ee24e32c939bb7f681ec9", func := "stele/stelelaw09.ConvcodeRoundTrip", spec := "convcodeRoundTrip", inPlace := ["internal/bytealg.IndexByteString", "internal/abi.NoEscape"], unfollowed := true, recurses := true, apart := false }
def ConvcodeRoundTripSaid : Prop := convcodeRoundTripRow.holds Try.pinned (OpenSpec.ofChange convcodeRoundTripSpec)

/-- ITS FALSE NEIGHBOUR: 'it returns false'. Refute it at one input. -/
def convcodeRoundTripWrong : ChangeSpec := { name := "convcodeRoundTrip", fn := fun _ => fun
  | [d1, d2, d3] => { results := [.lit (.bool false)], args := [d1, d2, d3] }
  | _ => none }
def ConvcodeRoundTripWrongFalsely : Prop := convcodeRoundTripRow.holds Try.pinned (OpenSpec.ofChange convcodeRoundTripWrong)

/-- 'stelelaw09.ConvcodeLinear': WHATEVER THE INPUT: true; the input reads as it did. -/
def convcodeLinearSpec : ChangeSpec := { name := "convcodeLinear", fn := fun _ => fun
  | [d1, d2] => { results := [.lit (.bool true)], args := [d1, d2] }
  | _ => none }
def convcodeLinearRow : OpenClaim := { program := "ythbhjbbgghpiaaa", sum := "09a76332f062ebd0706f86e43f77a2ea804179b1b96ee24e32c939bb7f681ec9", func := "stele/stelelaw09.ConvcodeLinear", spec := "convcodeLinear", inPlace := ["internal/bytealg.IndexByteString", "internal/abi.NoEscape"], unfollowed := true, recurses := true, apart := false }
def ConvcodeLinearSaid : Prop := convcodeLinearRow.holds Try.pinned (OpenSpec.ofChange convcodeLinearSpec)

/-- ITS FALSE NEIGHBOUR: 'it returns false'. Refute it at one input. -/
def convcodeLinearWrong : ChangeSpec := { name := "convcodeLinear", fn := fun _ => fun
  | [d1, d2] => { results := [.lit (.bool false)], args := [d1, d2] }
  | _ => none }
def ConvcodeLinearWrongFalsely : Prop := convcodeLinearRow.holds Try.pinned (OpenSpec.ofChange convcodeLinearWrong)

/-- 'stelelaw09.ConvcodeDistance': WHATEVER THE INPUT: true; the input reads as it did. -/
def convcodeDistanceSpec : ChangeSpec := { name := "convcodeDistance", fn := fun _ => fun
  | [d1, d2] => { results := [.lit (.bool true)], args := [d1, d2] }
  | _ => none }
def convcodeDistanceRow : OpenClaim := { program := "ythbhjbbgghpiaaa", sum := "09a76332f062ebd0706f86e43f77a2ea804179b1b96ee24e32c939bb7f681ec9", func := "stele/stelelaw09.ConvcodeDistance", spec := "convcodeDistance", inPlace := ["internal/bytealg.IndexByteString", "internal/abi.NoEscape", "internal/bytealg.CountString", "internal/bytealg.IndexString"], unfollowed := true, recurses := true, named := ["internal/bytealg.MaxLen"], apart := false }
def ConvcodeDistanceSaid : Prop := convcodeDistanceRow.holds Try.pinned (OpenSpec.ofChange convcodeDistanceSpec)

/-- ITS FALSE NEIGHBOUR: 'it returns false'. Refute it at one input. -/
def convcodeDistanceWrong : ChangeSpec := { name := "convcodeDistance", fn := fun _ => fun
  | [d1, d2] => { results := [.lit (.bool false)], args := [d1, d2] }
  | _ => none }
def ConvcodeDistanceWrongFalsely : Prop := convcodeDistanceRow.holds Try.pinned (OpenSpec.ofChange convcodeDistanceWrong)

/-- 'stelelaw09.ConvcodePrefix': WHATEVER THE INPUT: true; the input reads as it did. -/
def convcodePrefixSpec : ChangeSpec := { name := "convcodePrefix", fn := fun _ => fun
  | [d1, d2, d3] => { results := [.lit (.bool true)], args := [d1, d2, d3] }
  | _ => none }
def convcodePrefixRow : OpenClaim := { program := "ythbhjbbgghpiaaa", sum := "09a76332f062ebd0706f86e43f77a2ea804179b1b96ee24e32c939bb7f681ec9", func := "stele/stelelaw09.ConvcodePrefix", spec := "convcodePrefix", inPlace := ["internal/bytealg.IndexByteString", "internal/abi.NoEscape"], unfollowed := true, recurses := true, apart := false }
def ConvcodePrefixSaid : Prop := convcodePrefixRow.holds Try.pinned (OpenSpec.ofChange convcodePrefixSpec)

/-- ITS FALSE NEIGHBOUR: 'it returns false'. Refute it at one input. -/
def convcodePrefixWrong : ChangeSpec := { name := "convcodePrefix", fn := fun _ => fun
  | [d1, d2, d3] => { results := [.lit (.bool false)], args := [d1, d2, d3] }
  | _ => none }
def ConvcodePrefixWrongFalsely : Prop := convcodePrefixRow.holds Try.pinned (OpenSpec.ofChange convcodePrefixWrong)

/-- 'stelelaw09.ConvcodeShift': WHATEVER THE INPUT: true; the input reads as it did. -/
def convcodeShiftSpec : ChangeSpec := { name := "convcodeShift", fn := fun _ => fun
  | [d1, d2] => { results := [.lit (.bool true)], args := [d1, d2] }
  | _ => none }
def convcodeShiftRow : OpenClaim := { program := "ythbhjbbgghpiaaa", sum := "09a76332f062ebd0706f86e43f77a2ea804179b1b96ee24e32c939bb7f681ec9", func := "stele/stelelaw09.ConvcodeShift", spec := "convcodeShift", inPlace := ["internal/bytealg.IndexByteString", "internal/abi.NoEscape", "internal/bytealg.CountString", "internal/bytealg.IndexString"], unfollowed := true, recurses := true, named := ["internal/bytealg.MaxLen"], apart := false }
def ConvcodeShiftSaid : Prop := convcodeShiftRow.holds Try.pinned (OpenSpec.ofChange convcodeShiftSpec)

/-- ITS FALSE NEIGHBOUR: 'it returns false'. Refute it at one input. -/
def convcodeShiftWrong : ChangeSpec := { name := "convcodeShift", fn := fun _ => fun
  | [d1, d2] => { results := [.lit (.bool false)], args := [d1, d2] }
  | _ => none }
def ConvcodeShiftWrongFalsely : Prop := convcodeShiftRow.holds Try.pinned (OpenSpec.ofChange convcodeShiftWrong)

/- THE SECOND FORM. 'bulk': how many values and letters a reading holds, each counted each time it is reached (what is shared counts as often as it is met; a slice's spare places count too). A statement '..UptoSaid' is the law's where the arguments, and the package variables that the reading takes, are together of bulk at most 1048576: NARROWER than '..Said'. Prove '..Said' where nothing that the law and all that it calls make is longer than what came in: it says more and counts as full. Else prove '..UptoSaid'. A law counts once. -/
mutual
def uptoBulk {H : Type} : DataW H → Nat
  | .lit (.string bytes) => bytes.length + 1
  | .lit _ => 1
  | .nil => 1
  | .ptr d => uptoBulk d + 1
  | .slice elems spare => uptoBulkAll elems + uptoBulkAll spare + 1
  | .agg parts => uptoBulkAll parts + 1
  | .iface _ d => uptoBulk d + 1
  | .map entries => uptoBulkEntries entries + 1
  | .held _ => 1
def uptoBulkAll {H : Type} : List (DataW H) → Nat
  | [] => 0
  | d :: r => uptoBulk d + uptoBulkAll r
def uptoBulkEntries {H : Type} : List (Lit × DataW H) → Nat
  | [] => 0
  | x :: r => uptoBulkEntry x + uptoBulkEntries r
def uptoBulkEntry {H : Type} : Lit × DataW H → Nat
  | (.string bytes, d) => bytes.length + uptoBulk d + 1
  | (_, d) => uptoBulk d + 1
 end
def uptoSmall : (H : Type) → List (DataW H) → Bool := fun _ ds => decide (uptoBulkAll ds ≤ 1048576)
def OpenSpec.upto (s : _root_.Go.ChangeSpec) : _root_.Go.OpenSpec := { _root_.Go.OpenSpec.ofChange s with cond := some uptoSmall }

/-- 'stelelaw09.ConvcodeEncodes', WHERE WHAT IT READS IS OF BULK AT MOST 1048576: true; the input reads as it did. -/
def convcodeEncodesUptoRow : OpenClaim := { program := "ythbhjbbgghpiaaa", sum := "09a76332f062ebd0706f86e43f77a2ea804179b1b96ee24e32c939bb7f681ec9", func := "stele/stelelaw09.ConvcodeEncodes", spec := "convcodeEncodes", inPlace := ["internal/bytealg.IndexByteString", "internal/abi.NoEscape", "internal/bytealg.CountString", "internal/bytealg.IndexString"], unfollowed := true, recurses := true, named := ["internal/bytealg.MaxLen"], apart := false, narrowed := true }
def ConvcodeEncodesUptoSaid : Prop := convcodeEncodesUptoRow.holds Try.pinned (OpenSpec.upto convcodeEncodesSpec)

/-- 'stelelaw09.ConvcodeExtracts', WHERE WHAT IT READS IS OF BULK AT MOST 1048576: true; the input reads as it did. -/
def convcodeExtractsUptoRow : OpenClaim := { program := "ythbhjbbgghpiaaa", sum := "09a76332f062ebd0706f86e43f77a2ea804179b1b96ee24e32c939bb7f681ec9", func := "stele/stelelaw09.ConvcodeExtracts", spec := "convcodeExtracts", inPlace := ["internal/bytealg.IndexByteString", "internal/abi.NoEscape"], unfollowed := true, recurses := true, apart := false, narrowed := true }
def ConvcodeExtractsUptoSaid : Prop := convcodeExtractsUptoRow.holds Try.pinned (OpenSpec.upto convcodeExtractsSpec)

/-- 'stelelaw09.ConvcodeSteps', WHERE WHAT IT READS IS OF BULK AT MOST 1048576: true; the input reads as it did. -/
def convcodeStepsUptoRow : OpenClaim := { program := "ythbhjbbgghpiaaa", sum := "09a76332f062ebd0706f86e43f77a2ea804179b1b96ee24e32c939bb7f681ec9", func := "stele/stelelaw09.ConvcodeSteps", spec := "convcodeSteps", inPlace := ["internal/bytealg.IndexByteString", "internal/abi.NoEscape"], unfollowed := true, recurses := true, apart := false, narrowed := true }
def ConvcodeStepsUptoSaid : Prop := convcodeStepsUptoRow.holds Try.pinned (OpenSpec.upto convcodeStepsSpec)

/-- 'stelelaw09.ConvcodeRoundTrip', WHERE WHAT IT READS IS OF BULK AT MOST 1048576: true; the input reads as it did. -/
def convcodeRoundTripUptoRow : OpenClaim := { program := "ythbhjbbgghpiaaa", sum := "09a76332f062ebd0706f86e43f77a2ea804179b1b96ee24e32c939bb7f681ec9", func := "stele/stelelaw09.ConvcodeRoundTrip", spec := "convcodeRoundTrip", inPlace := ["internal/bytealg.IndexByteString", "internal/abi.NoEscape"], unfollowed := true, recurses := true, apart := false, narrowed := true }
def ConvcodeRoundTripUptoSaid : Prop := convcodeRoundTripUptoRow.holds Try.pinned (OpenSpec.upto convcodeRoundTripSpec)

/-- 'stelelaw09.ConvcodeLinear', WHERE WHAT IT READS IS OF BULK AT MOST 1048576: true; the input reads as it did. -/
def convcodeLinearUptoRow : OpenClaim := { program := "ythbhjbbgghpiaaa", sum := "09a76332f062ebd0706f86e43f77a2ea804179b1b96ee24e32c939bb7f681ec9", func := "stele/stelelaw09.ConvcodeLinear", spec := "convcodeLinear", inPlace := ["internal/bytealg.IndexByteString", "internal/abi.NoEscape"], unfollowed := true, recurses := true, apart := false, narrowed := true }
def ConvcodeLinearUptoSaid : Prop := convcodeLinearUptoRow.holds Try.pinned (OpenSpec.upto convcodeLinearSpec)

/-- 'stelelaw09.ConvcodeDistance', WHERE WHAT IT READS IS OF BULK AT MOST 1048576: true; the input reads as it did. -/
def convcodeDistanceUptoRow : OpenClaim := { program := "ythbhjbbgghpiaaa", sum := "09a76332f062ebd0706f86e43f77a2ea804179b1b96ee24e32c939bb7f681ec9", func := "stele/stelelaw09.ConvcodeDistance", spec := "convcodeDistance", inPlace := ["internal/bytealg.IndexByteString", "internal/abi.NoEscape", "internal/bytealg.CountString", "internal/bytealg.IndexString"], unfollowed := true, recurses := true, named := ["internal/bytealg.MaxLen"], apart := false, narrowed := true }
def ConvcodeDistanceUptoSaid : Prop := convcodeDistanceUptoRow.holds Try.pinned (OpenSpec.upto convcodeDistanceSpec)

/-- 'stelelaw09.ConvcodePrefix', WHERE WHAT IT READS IS OF BULK AT MOST 1048576: true; the input reads as it did. -/
def convcodePrefixUptoRow : OpenClaim := { program := "ythbhjbbgghpiaaa", sum := "09a76332f062ebd0706f86e43f77a2ea804179b1b96ee24e32c939bb7f681ec9", func := "stele/stelelaw09.ConvcodePrefix", spec := "convcodePrefix", inPlace := ["internal/bytealg.IndexByteString", "internal/abi.NoEscape"], unfollowed := true, recurses := true, apart := false, narrowed := true }
def ConvcodePrefixUptoSaid : Prop := convcodePrefixUptoRow.holds Try.pinned (OpenSpec.upto convcodePrefixSpec)

/-- 'stelelaw09.ConvcodeShift', WHERE WHAT IT READS IS OF BULK AT MOST 1048576: true; the input reads as it did. -/
def convcodeShiftUptoRow : OpenClaim := { program := "ythbhjbbgghpiaaa", sum := "09a76332f062ebd0706f86e43f77a2ea804179b1b96ee24e32c939bb7f681ec9", func := "stele/stelelaw09.ConvcodeShift", spec := "convcodeShift", inPlace := ["internal/bytealg.IndexByteString", "internal/abi.NoEscape", "internal/bytealg.CountString", "internal/bytealg.IndexString"], unfollowed := true, recurses := true, named := ["internal/bytealg.MaxLen"], apart := false, narrowed := true }
def ConvcodeShiftUptoSaid : Prop := convcodeShiftUptoRow.holds Try.pinned (OpenSpec.upto convcodeShiftSpec)

end Rows
end Go.Proofs.Ythbhjbbgghpiaaa
