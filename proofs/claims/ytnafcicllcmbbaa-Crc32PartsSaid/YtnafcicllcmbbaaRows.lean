/-
  No cell of these rows narrows 'for every input' (looked for: loops, veiled, ifaces, maps, wideKeys, modest, calm, conditions, laid).
  DERIVED. THE GIVEN ROWS OF THIS SEAT. 8 by the template 'for every input the law returns true; each argument reads behind the call as it read before'; 0 by the template 'total and deterministic' (their statements: YtnafcicllcmbbaaTotals.lean).
  GIVEN WITH THE SEED: the statements are not yours to turn. If you find one false, say at which input.
  Laid BY PROGRAM, IN A SANDBOX (cutbox-rows.mjs): the forced cells as the released guide's own fill.sh prints them over the translation 854402f2d068d465… (all of the seat's roots in one cut). By AI agents, Wed Nov 11 2026. No macro, syntax, notation, axiom, sorry.
-/
import Derived.Test.YtnafcicllcmbbaaChecked
import GoSem.Claim
import GoSem.ClaimJoined
import GoSem.ClaimMapViews
import Derived.JoinedTies
import Derived.KernelRfl
namespace Go.Proofs.Ytnafcicllcmbbaa
/- THE CELL 'sum', in the pinned program and in every row, IS THE sha256 OF THE DUMP (.gsa) THAT YtnafcicllcmbbaaProg.lean LOADS. Nothing in Lean hashes anything: it is a label: what it is worth is what the hold of that sum in a sandbox is worth. -/
noncomputable def Try.pinned : Pinned := { name := "ytnafcicllcmbbaa", sum := "854402f2d068d465294d393c20ec5de61e3c38b3c0e64519435f277e4487730d", checked := Try.checked }
namespace Rows
def none {H : Type} : Left H := { results := [], args := [] }

/-- 'stelelaw03.Crc32Values': WHATEVER THE INPUT: true; the input reads as it did. -/
def crc32ValuesSpec : ChangeSpec := { name := "crc32Values", fn := fun _ => fun
  | [d1, d2] => { results := [.lit (.bool true)], args := [d1, d2] }
  | _ => none }
def crc32ValuesRow : OpenClaim := { program := "ytnafcicllcmbbaa", sum := "854402f2d068d465294d393c20ec5de61e3c38b3c0e64519435f277e4487730d", func := "stele/stelelaw03.Crc32Values", spec := "crc32Values", apart := false }
def Crc32ValuesSaid : Prop := crc32ValuesRow.holds Try.pinned (OpenSpec.ofChange crc32ValuesSpec)

/-- ITS FALSE NEIGHBOUR: 'it returns false'. Refute it at one input. -/
def crc32ValuesWrong : ChangeSpec := { name := "crc32Values", fn := fun _ => fun
  | [d1, d2] => { results := [.lit (.bool false)], args := [d1, d2] }
  | _ => none }
def Crc32ValuesWrongFalsely : Prop := crc32ValuesRow.holds Try.pinned (OpenSpec.ofChange crc32ValuesWrong)

/-- 'stelelaw03.Crc32Parts': WHATEVER THE INPUT: true; the input reads as it did. -/
def crc32PartsSpec : ChangeSpec := { name := "crc32Parts", fn := fun _ => fun
  | [d1, d2, d3] => { results := [.lit (.bool true)], args := [d1, d2, d3] }
  | _ => none }
def crc32PartsRow : OpenClaim := { program := "ytnafcicllcmbbaa", sum := "854402f2d068d465294d393c20ec5de61e3c38b3c0e64519435f277e4487730d", func := "stele/stelelaw03.Crc32Parts", spec := "crc32Parts", apart := false }
def Crc32PartsSaid : Prop := crc32PartsRow.holds Try.pinned (OpenSpec.ofChange crc32PartsSpec)

/-- ITS FALSE NEIGHBOUR: 'it returns false'. Refute it at one input. -/
def crc32PartsWrong : ChangeSpec := { name := "crc32Parts", fn := fun _ => fun
  | [d1, d2, d3] => { results := [.lit (.bool false)], args := [d1, d2, d3] }
  | _ => none }
def Crc32PartsWrongFalsely : Prop := crc32PartsRow.holds Try.pinned (OpenSpec.ofChange crc32PartsWrong)

/-- 'stelelaw03.Crc32Combine': WHATEVER THE INPUT: true; the input reads as it did. -/
def crc32CombineSpec : ChangeSpec := { name := "crc32Combine", fn := fun _ => fun
  | [d1, d2] => { results := [.lit (.bool true)], args := [d1, d2] }
  | _ => none }
def crc32CombineRow : OpenClaim := { program := "ytnafcicllcmbbaa", sum := "854402f2d068d465294d393c20ec5de61e3c38b3c0e64519435f277e4487730d", func := "stele/stelelaw03.Crc32Combine", spec := "crc32Combine", apart := false }
def Crc32CombineSaid : Prop := crc32CombineRow.holds Try.pinned (OpenSpec.ofChange crc32CombineSpec)

/-- ITS FALSE NEIGHBOUR: 'it returns false'. Refute it at one input. -/
def crc32CombineWrong : ChangeSpec := { name := "crc32Combine", fn := fun _ => fun
  | [d1, d2] => { results := [.lit (.bool false)], args := [d1, d2] }
  | _ => none }
def Crc32CombineWrongFalsely : Prop := crc32CombineRow.holds Try.pinned (OpenSpec.ofChange crc32CombineWrong)

/-- 'stelelaw03.Crc32CombineLengths': WHATEVER THE INPUT: true; the input reads as it did. -/
def crc32CombineLengthsSpec : ChangeSpec := { name := "crc32CombineLengths", fn := fun _ => fun
  | [d1, d2, d3, d4, d5] => { results := [.lit (.bool true)], args := [d1, d2, d3, d4, d5] }
  | _ => none }
def crc32CombineLengthsRow : OpenClaim := { program := "ytnafcicllcmbbaa", sum := "854402f2d068d465294d393c20ec5de61e3c38b3c0e64519435f277e4487730d", func := "stele/stelelaw03.Crc32CombineLengths", spec := "crc32CombineLengths", apart := false }
def Crc32CombineLengthsSaid : Prop := crc32CombineLengthsRow.holds Try.pinned (OpenSpec.ofChange crc32CombineLengthsSpec)

/-- ITS FALSE NEIGHBOUR: 'it returns false'. Refute it at one input. -/
def crc32CombineLengthsWrong : ChangeSpec := { name := "crc32CombineLengths", fn := fun _ => fun
  | [d1, d2, d3, d4, d5] => { results := [.lit (.bool false)], args := [d1, d2, d3, d4, d5] }
  | _ => none }
def Crc32CombineLengthsWrongFalsely : Prop := crc32CombineLengthsRow.holds Try.pinned (OpenSpec.ofChange crc32CombineLengthsWrong)

/-- 'stelelaw03.Crc32Affine': WHATEVER THE INPUT: true; the input reads as it did. -/
def crc32AffineSpec : ChangeSpec := { name := "crc32Affine", fn := fun _ => fun
  | [d1, d2, d3] => { results := [.lit (.bool true)], args := [d1, d2, d3] }
  | _ => none }
def crc32AffineRow : OpenClaim := { program := "ytnafcicllcmbbaa", sum := "854402f2d068d465294d393c20ec5de61e3c38b3c0e64519435f277e4487730d", func := "stele/stelelaw03.Crc32Affine", spec := "crc32Affine", apart := false }
def Crc32AffineSaid : Prop := crc32AffineRow.holds Try.pinned (OpenSpec.ofChange crc32AffineSpec)

/-- ITS FALSE NEIGHBOUR: 'it returns false'. Refute it at one input. -/
def crc32AffineWrong : ChangeSpec := { name := "crc32Affine", fn := fun _ => fun
  | [d1, d2, d3] => { results := [.lit (.bool false)], args := [d1, d2, d3] }
  | _ => none }
def Crc32AffineWrongFalsely : Prop := crc32AffineRow.holds Try.pinned (OpenSpec.ofChange crc32AffineWrong)

/-- 'stelelaw03.Crc32Bursts': WHATEVER THE INPUT: true; the input reads as it did. -/
def crc32BurstsSpec : ChangeSpec := { name := "crc32Bursts", fn := fun _ => fun
  | [d1, d2, d3] => { results := [.lit (.bool true)], args := [d1, d2, d3] }
  | _ => none }
def crc32BurstsRow : OpenClaim := { program := "ytnafcicllcmbbaa", sum := "854402f2d068d465294d393c20ec5de61e3c38b3c0e64519435f277e4487730d", func := "stele/stelelaw03.Crc32Bursts", spec := "crc32Bursts", apart := false }
def Crc32BurstsSaid : Prop := crc32BurstsRow.holds Try.pinned (OpenSpec.ofChange crc32BurstsSpec)

/-- ITS FALSE NEIGHBOUR: 'it returns false'. Refute it at one input. -/
def crc32BurstsWrong : ChangeSpec := { name := "crc32Bursts", fn := fun _ => fun
  | [d1, d2, d3] => { results := [.lit (.bool false)], args := [d1, d2, d3] }
  | _ => none }
def Crc32BurstsWrongFalsely : Prop := crc32BurstsRow.holds Try.pinned (OpenSpec.ofChange crc32BurstsWrong)

/-- 'stelelaw03.Crc32Residue': WHATEVER THE INPUT: true; the input reads as it did. -/
def crc32ResidueSpec : ChangeSpec := { name := "crc32Residue", fn := fun _ => fun
  | [d] => { results := [.lit (.bool true)], args := [d] }
  | _ => none }
def crc32ResidueRow : OpenClaim := { program := "ytnafcicllcmbbaa", sum := "854402f2d068d465294d393c20ec5de61e3c38b3c0e64519435f277e4487730d", func := "stele/stelelaw03.Crc32Residue", spec := "crc32Residue", apart := false }
def Crc32ResidueSaid : Prop := crc32ResidueRow.holds Try.pinned (OpenSpec.ofChange crc32ResidueSpec)

/-- ITS FALSE NEIGHBOUR: 'it returns false'. Refute it at one input. -/
def crc32ResidueWrong : ChangeSpec := { name := "crc32Residue", fn := fun _ => fun
  | [d] => { results := [.lit (.bool false)], args := [d] }
  | _ => none }
def Crc32ResidueWrongFalsely : Prop := crc32ResidueRow.holds Try.pinned (OpenSpec.ofChange crc32ResidueWrong)

/-- 'stelelaw03.Crc32Registers': WHATEVER THE INPUT: true; the input reads as it did. -/
def crc32RegistersSpec : ChangeSpec := { name := "crc32Registers", fn := fun _ => fun
  | [d1, d2, d3] => { results := [.lit (.bool true)], args := [d1, d2, d3] }
  | _ => none }
def crc32RegistersRow : OpenClaim := { program := "ytnafcicllcmbbaa", sum := "854402f2d068d465294d393c20ec5de61e3c38b3c0e64519435f277e4487730d", func := "stele/stelelaw03.Crc32Registers", spec := "crc32Registers", apart := false }
def Crc32RegistersSaid : Prop := crc32RegistersRow.holds Try.pinned (OpenSpec.ofChange crc32RegistersSpec)

/-- ITS FALSE NEIGHBOUR: 'it returns false'. Refute it at one input. -/
def crc32RegistersWrong : ChangeSpec := { name := "crc32Registers", fn := fun _ => fun
  | [d1, d2, d3] => { results := [.lit (.bool false)], args := [d1, d2, d3] }
  | _ => none }
def Crc32RegistersWrongFalsely : Prop := crc32RegistersRow.holds Try.pinned (OpenSpec.ofChange crc32RegistersWrong)

/- THE SECOND FORM. 'bulk': how many values and letters a reading holds, each counted each time it is reached (what is shared counts as often as it is met; a slice's spare places count too). A statement '..UptoSaid' is the law's where the arguments, and the package variables that the reading takes, are together of bulk at most 1048576: NARROWER than '..Said'. Prove '..Said' where nothing that the law and all that it calls make is longer than what came in: it says more and counts as full. Else prove '..UptoSaid'. A law counts once. -/
mutual
def uptoBulk {H : Type} : DataW H → Nat
  | .lit (.string bytes) => bytes.length + 1
  | .lit _ => 1
  | .nil => 1
  | .ptr d => uptoBulk d + 1
  | .slice elems spare => uptoBulkAll elems + uptoBulkAll spare + 1
  | .agg parts => uptoBulkAll parts + 1
  | .iface _ d => uptoBulk d + 1
  | .map entries => uptoBulkEntries entries + 1
  | .held _ => 1
def uptoBulkAll {H : Type} : List (DataW H) → Nat
  | [] => 0
  | d :: r => uptoBulk d + uptoBulkAll r
def uptoBulkEntries {H : Type} : List (Lit × DataW H) → Nat
  | [] => 0
  | x :: r => uptoBulkEntry x + uptoBulkEntries r
def uptoBulkEntry {H : Type} : Lit × DataW H → Nat
  | (.string bytes, d) => bytes.length + uptoBulk d + 1
  | (_, d) => uptoBulk d + 1
 end
def uptoSmall : (H : Type) → List (DataW H) → Bool := fun _ ds => decide (uptoBulkAll ds ≤ 1048576)
def OpenSpec.upto (s : _root_.Go.ChangeSpec) : _root_.Go.OpenSpec := { _root_.Go.OpenSpec.ofChange s with cond := some uptoSmall }

/-- 'stelelaw03.Crc32Values', WHERE WHAT IT READS IS OF BULK AT MOST 1048576: true; the input reads as it did. -/
def crc32ValuesUptoRow : OpenClaim := { program := "ytnafcicllcmbbaa", sum := "854402f2d068d465294d393c20ec5de61e3c38b3c0e64519435f277e4487730d", func := "stele/stelelaw03.Crc32Values", spec := "crc32Values", apart := false, narrowed := true }
def Crc32ValuesUptoSaid : Prop := crc32ValuesUptoRow.holds Try.pinned (OpenSpec.upto crc32ValuesSpec)

/-- 'stelelaw03.Crc32Parts', WHERE WHAT IT READS IS OF BULK AT MOST 1048576: true; the input reads as it did. -/
def crc32PartsUptoRow : OpenClaim := { program := "ytnafcicllcmbbaa", sum := "854402f2d068d465294d393c20ec5de61e3c38b3c0e64519435f277e4487730d", func := "stele/stelelaw03.Crc32Parts", spec := "crc32Parts", apart := false, narrowed := true }
def Crc32PartsUptoSaid : Prop := crc32PartsUptoRow.holds Try.pinned (OpenSpec.upto crc32PartsSpec)

/-- 'stelelaw03.Crc32Combine', WHERE WHAT IT READS IS OF BULK AT MOST 1048576: true; the input reads as it did. -/
def crc32CombineUptoRow : OpenClaim := { program := "ytnafcicllcmbbaa", sum := "854402f2d068d465294d393c20ec5de61e3c38b3c0e64519435f277e4487730d", func := "stele/stelelaw03.Crc32Combine", spec := "crc32Combine", apart := false, narrowed := true }
def Crc32CombineUptoSaid : Prop := crc32CombineUptoRow.holds Try.pinned (OpenSpec.upto crc32CombineSpec)

/-- 'stelelaw03.Crc32CombineLengths', WHERE WHAT IT READS IS OF BULK AT MOST 1048576: true; the input reads as it did. -/
def crc32CombineLengthsUptoRow : OpenClaim := { program := "ytnafcicllcmbbaa", sum := "854402f2d068d465294d393c20ec5de61e3c38b3c0e64519435f277e4487730d", func := "stele/stelelaw03.Crc32CombineLengths", spec := "crc32CombineLengths", apart := false, narrowed := true }
def Crc32CombineLengthsUptoSaid : Prop := crc32CombineLengthsUptoRow.holds Try.pinned (OpenSpec.upto crc32CombineLengthsSpec)

/-- 'stelelaw03.Crc32Affine', WHERE WHAT IT READS IS OF BULK AT MOST 1048576: true; the input reads as it did. -/
def crc32AffineUptoRow : OpenClaim := { program := "ytnafcicllcmbbaa", sum := "854402f2d068d465294d393c20ec5de61e3c38b3c0e64519435f277e4487730d", func := "stele/stelelaw03.Crc32Affine", spec := "crc32Affine", apart := false, narrowed := true }
def Crc32AffineUptoSaid : Prop := crc32AffineUptoRow.holds Try.pinned (OpenSpec.upto crc32AffineSpec)

/-- 'stelelaw03.Crc32Bursts', WHERE WHAT IT READS IS OF BULK AT MOST 1048576: true; the input reads as it did. -/
def crc32BurstsUptoRow : OpenClaim := { program := "ytnafcicllcmbbaa", sum := "854402f2d068d465294d393c20ec5de61e3c38b3c0e64519435f277e4487730d", func := "stele/stelelaw03.Crc32Bursts", spec := "crc32Bursts", apart := false, narrowed := true }
def Crc32BurstsUptoSaid : Prop := crc32BurstsUptoRow.holds Try.pinned (OpenSpec.upto crc32BurstsSpec)

/-- 'stelelaw03.Crc32Residue', WHERE WHAT IT READS IS OF BULK AT MOST 1048576: true; the input reads as it did. -/
def crc32ResidueUptoRow : OpenClaim := { program := "ytnafcicllcmbbaa", sum := "854402f2d068d465294d393c20ec5de61e3c38b3c0e64519435f277e4487730d", func := "stele/stelelaw03.Crc32Residue", spec := "crc32Residue", apart := false, narrowed := true }
def Crc32ResidueUptoSaid : Prop := crc32ResidueUptoRow.holds Try.pinned (OpenSpec.upto crc32ResidueSpec)

/-- 'stelelaw03.Crc32Registers', WHERE WHAT IT READS IS OF BULK AT MOST 1048576: true; the input reads as it did. -/
def crc32RegistersUptoRow : OpenClaim := { program := "ytnafcicllcmbbaa", sum := "854402f2d068d465294d393c20ec5de61e3c38b3c0e64519435f277e4487730d", func := "stele/stelelaw03.Crc32Registers", spec := "crc32Registers", apart := false, narrowed := true }
def Crc32RegistersUptoSaid : Prop := crc32RegistersUptoRow.holds Try.pinned (OpenSpec.upto crc32RegistersSpec)

end Rows
end Go.Proofs.Ytnafcicllcmbbaa
