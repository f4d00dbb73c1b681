/-
  No cell of these rows narrows 'for every input' (looked for: loops, veiled, ifaces, maps, wideKeys, modest, calm, conditions, laid).
  DERIVED. THE GIVEN ROWS OF THIS SEAT. 8 by the template 'for every input the law returns true; each argument reads behind the call as it read before'; 0 by the template 'total and deterministic' (their statements: YtmkmikegddafdaaTotals.lean).
  GIVEN WITH THE SEED: the statements are not yours to turn. If you find one false, say at which input.
  Laid BY PROGRAM, IN A SANDBOX (cutbox-rows.mjs): the forced cells as the released guide's own fill.sh prints them over the translation ff8a80705b9a9a75… (all of the seat's roots in one cut). By AI agents, Wed Nov 11 2026. No macro, syntax, notation, axiom, sorry.
-/
import Derived.Test.YtmkmikegddafdaaChecked
import GoSem.Claim
import GoSem.ClaimJoined
import GoSem.ClaimMapViews
import Derived.JoinedTies
import Derived.KernelRfl
namespace Go.Proofs.Ytmkmikegddafdaa
/- THE CELL 'sum', in the pinned program and in every row, IS THE sha256 OF THE DUMP (.gsa) THAT YtmkmikegddafdaaProg.lean LOADS. Nothing in Lean hashes anything: it is a label: what it is worth is what the hold of that sum in a sandbox is worth. -/
noncomputable def Try.pinned : Pinned := { name := "ytmkmikegddafdaa", sum := "ff8a80705b9a9a753822d52e97dc04b60515a1547a6f55550ce40fb2320bf7f0", checked := Try.checked }
namespace Rows
def none {H : Type} : Left H := { results := [], args := [] }

/-- 'stelelaw10.ViterbiResult': WHATEVER THE INPUT: true; the input reads as it did. -/
def viterbiResultSpec : ChangeSpec := { name := "viterbiResult", fn := fun _ => fun
  | [d] => { results := [.lit (.bool true)], args := [d] }
  | _ => none }
def viterbiResultRow : OpenClaim := { program := "ytmkmikegddafdaa", sum := "ff8a80705b9a9a753822d52e97dc04b60515a1547a6f55550ce40fb2320bf7f0", func := "stele/stelelaw10.ViterbiResult", spec := "viterbiResult", apart := false }
def ViterbiResultSaid : Prop := viterbiResultRow.holds Try.pinned (OpenSpec.ofChange viterbiResultSpec)

/-- ITS FALSE NEIGHBOUR: 'it returns false'. Refute it at one input. -/
def viterbiResultWrong : ChangeSpec := { name := "viterbiResult", fn := fun _ => fun
  | [d] => { results := [.lit (.bool false)], args := [d] }
  | _ => none }
def ViterbiResultWrongFalsely : Prop := viterbiResultRow.holds Try.pinned (OpenSpec.ofChange viterbiResultWrong)

/-- 'stelelaw10.ViterbiCosts': WHATEVER THE INPUT: true; the input reads as it did. -/
def viterbiCostsSpec : ChangeSpec := { name := "viterbiCosts", fn := fun _ => fun
  | [d1, d2] => { results := [.lit (.bool true)], args := [d1, d2] }
  | _ => none }
def viterbiCostsRow : OpenClaim := { program := "ytmkmikegddafdaa", sum := "ff8a80705b9a9a753822d52e97dc04b60515a1547a6f55550ce40fb2320bf7f0", func := "stele/stelelaw10.ViterbiCosts", spec := "viterbiCosts", apart := false }
def ViterbiCostsSaid : Prop := viterbiCostsRow.holds Try.pinned (OpenSpec.ofChange viterbiCostsSpec)

/-- ITS FALSE NEIGHBOUR: 'it returns false'. Refute it at one input. -/
def viterbiCostsWrong : ChangeSpec := { name := "viterbiCosts", fn := fun _ => fun
  | [d1, d2] => { results := [.lit (.bool false)], args := [d1, d2] }
  | _ => none }
def ViterbiCostsWrongFalsely : Prop := viterbiCostsRow.holds Try.pinned (OpenSpec.ofChange viterbiCostsWrong)

/-- 'stelelaw10.ViterbiOptimality': WHATEVER THE INPUT: true; the input reads as it did. -/
def viterbiOptimalitySpec : ChangeSpec := { name := "viterbiOptimality", fn := fun _ => fun
  | [d1, d2] => { results := [.lit (.bool true)], args := [d1, d2] }
  | _ => none }
def viterbiOptimalityRow : OpenClaim := { program := "ytmkmikegddafdaa", sum := "ff8a80705b9a9a753822d52e97dc04b60515a1547a6f55550ce40fb2320bf7f0", func := "stele/stelelaw10.ViterbiOptimality", spec := "viterbiOptimality", inPlace := ["internal/bytealg.IndexByteString", "internal/abi.NoEscape"], unfollowed := true, recurses := true, apart := false }
def ViterbiOptimalitySaid : Prop := viterbiOptimalityRow.holds Try.pinned (OpenSpec.ofChange viterbiOptimalitySpec)

/-- ITS FALSE NEIGHBOUR: 'it returns false'. Refute it at one input. -/
def viterbiOptimalityWrong : ChangeSpec := { name := "viterbiOptimality", fn := fun _ => fun
  | [d1, d2] => { results := [.lit (.bool false)], args := [d1, d2] }
  | _ => none }
def ViterbiOptimalityWrongFalsely : Prop := viterbiOptimalityRow.holds Try.pinned (OpenSpec.ofChange viterbiOptimalityWrong)

/-- 'stelelaw10.ViterbiCorrection': WHATEVER THE INPUT: true; the input reads as it did. -/
def viterbiCorrectionSpec : ChangeSpec := { name := "viterbiCorrection", fn := fun _ => fun
  | [d1, d2, d3] => { results := [.lit (.bool true)], args := [d1, d2, d3] }
  | _ => none }
def viterbiCorrectionRow : OpenClaim := { program := "ytmkmikegddafdaa", sum := "ff8a80705b9a9a753822d52e97dc04b60515a1547a6f55550ce40fb2320bf7f0", func := "stele/stelelaw10.ViterbiCorrection", spec := "viterbiCorrection", inPlace := ["internal/bytealg.IndexByteString", "internal/abi.NoEscape"], unfollowed := true, recurses := true, apart := false }
def ViterbiCorrectionSaid : Prop := viterbiCorrectionRow.holds Try.pinned (OpenSpec.ofChange viterbiCorrectionSpec)

/-- ITS FALSE NEIGHBOUR: 'it returns false'. Refute it at one input. -/
def viterbiCorrectionWrong : ChangeSpec := { name := "viterbiCorrection", fn := fun _ => fun
  | [d1, d2, d3] => { results := [.lit (.bool false)], args := [d1, d2, d3] }
  | _ => none }
def ViterbiCorrectionWrongFalsely : Prop := viterbiCorrectionRow.holds Try.pinned (OpenSpec.ofChange viterbiCorrectionWrong)

/-- 'stelelaw10.ViterbiErasures': WHATEVER THE INPUT: true; the input reads as it did. -/
def viterbiErasuresSpec : ChangeSpec := { name := "viterbiErasures", fn := fun _ => fun
  | [d1, d2] => { results := [.lit (.bool true)], args := [d1, d2] }
  | _ => none }
def viterbiErasuresRow : OpenClaim := { program := "ytmkmikegddafdaa", sum := "ff8a80705b9a9a753822d52e97dc04b60515a1547a6f55550ce40fb2320bf7f0", func := "stele/stelelaw10.ViterbiErasures", spec := "viterbiErasures", inPlace := ["internal/bytealg.IndexByteString", "internal/abi.NoEscape"], unfollowed := true, recurses := true, apart := false }
def ViterbiErasuresSaid : Prop := viterbiErasuresRow.holds Try.pinned (OpenSpec.ofChange viterbiErasuresSpec)

/-- ITS FALSE NEIGHBOUR: 'it returns false'. Refute it at one input. -/
def viterbiErasuresWrong : ChangeSpec := { name := "viterbiErasures", fn := fun _ => fun
  | [d1, d2] => { results := [.lit (.bool false)], args := [d1, d2] }
  | _ => none }
def ViterbiErasuresWrongFalsely : Prop := viterbiErasuresRow.holds Try.pinned (OpenSpec.ofChange viterbiErasuresWrong)

/-- 'stelelaw10.ViterbiTransitions': WHATEVER THE INPUT: true; the input reads as it did. -/
def viterbiTransitionsSpec : ChangeSpec := { name := "viterbiTransitions", fn := fun _ => fun
  | [d1, d2, d3] => { results := [.lit (.bool true)], args := [d1, d2, d3] }
  | _ => none }
def viterbiTransitionsRow : OpenClaim := { program := "ytmkmikegddafdaa", sum := "ff8a80705b9a9a753822d52e97dc04b60515a1547a6f55550ce40fb2320bf7f0", func := "stele/stelelaw10.ViterbiTransitions", spec := "viterbiTransitions", apart := false }
def ViterbiTransitionsSaid : Prop := viterbiTransitionsRow.holds Try.pinned (OpenSpec.ofChange viterbiTransitionsSpec)

/-- ITS FALSE NEIGHBOUR: 'it returns false'. Refute it at one input. -/
def viterbiTransitionsWrong : ChangeSpec := { name := "viterbiTransitions", fn := fun _ => fun
  | [d1, d2, d3] => { results := [.lit (.bool false)], args := [d1, d2, d3] }
  | _ => none }
def ViterbiTransitionsWrongFalsely : Prop := viterbiTransitionsRow.holds Try.pinned (OpenSpec.ofChange viterbiTransitionsWrong)

/-- 'stelelaw10.ViterbiMonotonicity': WHATEVER THE INPUT: true; the input reads as it did. -/
def viterbiMonotonicitySpec : ChangeSpec := { name := "viterbiMonotonicity", fn := fun _ => fun
  | [d1, d2] => { results := [.lit (.bool true)], args := [d1, d2] }
  | _ => none }
def viterbiMonotonicityRow : OpenClaim := { program := "ytmkmikegddafdaa", sum := "ff8a80705b9a9a753822d52e97dc04b60515a1547a6f55550ce40fb2320bf7f0", func := "stele/stelelaw10.ViterbiMonotonicity", spec := "viterbiMonotonicity", apart := false }
def ViterbiMonotonicitySaid : Prop := viterbiMonotonicityRow.holds Try.pinned (OpenSpec.ofChange viterbiMonotonicitySpec)

/-- ITS FALSE NEIGHBOUR: 'it returns false'. Refute it at one input. -/
def viterbiMonotonicityWrong : ChangeSpec := { name := "viterbiMonotonicity", fn := fun _ => fun
  | [d1, d2] => { results := [.lit (.bool false)], args := [d1, d2] }
  | _ => none }
def ViterbiMonotonicityWrongFalsely : Prop := viterbiMonotonicityRow.holds Try.pinned (OpenSpec.ofChange viterbiMonotonicityWrong)

/-- 'stelelaw10.ViterbiExtract': WHATEVER THE INPUT: true; the input reads as it did. -/
def viterbiExtractSpec : ChangeSpec := { name := "viterbiExtract", fn := fun _ => fun
  | [d] => { results := [.lit (.bool true)], args := [d] }
  | _ => none }
def viterbiExtractRow : OpenClaim := { program := "ytmkmikegddafdaa", sum := "ff8a80705b9a9a753822d52e97dc04b60515a1547a6f55550ce40fb2320bf7f0", func := "stele/stelelaw10.ViterbiExtract", spec := "viterbiExtract", inPlace := ["internal/bytealg.IndexByteString", "internal/abi.NoEscape"], unfollowed := true, recurses := true, apart := false }
def ViterbiExtractSaid : Prop := viterbiExtractRow.holds Try.pinned (OpenSpec.ofChange viterbiExtractSpec)

/-- ITS FALSE NEIGHBOUR: 'it returns false'. Refute it at one input. -/
def viterbiExtractWrong : ChangeSpec := { name := "viterbiExtract", fn := fun _ => fun
  | [d] => { results := [.lit (.bool false)], args := [d] }
  | _ => none }
def ViterbiExtractWrongFalsely : Prop := viterbiExtractRow.holds Try.pinned (OpenSpec.ofChange viterbiExtractWrong)

/- THE SECOND FORM. 'bulk': how many values and letters a reading holds, each counted each time it is reached (what is shared counts as often as it is met; a slice's spare places count too). A statement '..UptoSaid' is the law's where the arguments, and the package variables that the reading takes, are together of bulk at most 1048576: NARROWER than '..Said'. Prove '..Said' where nothing that the law and all that it calls make is longer than what came in: it says more and counts as full. Else prove '..UptoSaid'. A law counts once. -/
mutual
def uptoBulk {H : Type} : DataW H → Nat
  | .lit (.string bytes) => bytes.length + 1
  | .lit _ => 1
  | .nil => 1
  | .ptr d => uptoBulk d + 1
  | .slice elems spare => uptoBulkAll elems + uptoBulkAll spare + 1
  | .agg parts => uptoBulkAll parts + 1
  | .iface _ d => uptoBulk d + 1
  | .map entries => uptoBulkEntries entries + 1
  | .held _ => 1
def uptoBulkAll {H : Type} : List (DataW H) → Nat
  | [] => 0
  | d :: r => uptoBulk d + uptoBulkAll r
def uptoBulkEntries {H : Type} : List (Lit × DataW H) → Nat
  | [] => 0
  | x :: r => uptoBulkEntry x + uptoBulkEntries r
def uptoBulkEntry {H : Type} : Lit × DataW H → Nat
  | (.string bytes, d) => bytes.length + uptoBulk d + 1
  | (_, d) => uptoBulk d + 1
 end
def uptoSmall : (H : Type) → List (DataW H) → Bool := fun _ ds => decide (uptoBulkAll ds ≤ 1048576)
def OpenSpec.upto (s : _root_.Go.ChangeSpec) : _root_.Go.OpenSpec := { _root_.Go.OpenSpec.ofChange s with cond := some uptoSmall }

/-- 'stelelaw10.ViterbiResult', WHERE WHAT IT READS IS OF BULK AT MOST 1048576: true; the input reads as it did. -/
def viterbiResultUptoRow : OpenClaim := { program := "ytmkmikegddafdaa", sum := "ff8a80705b9a9a753822d52e97dc04b60515a1547a6f55550ce40fb2320bf7f0", func := "stele/stelelaw10.ViterbiResult", spec := "viterbiResult", apart := false, narrowed := true }
def ViterbiResultUptoSaid : Prop := viterbiResultUptoRow.holds Try.pinned (OpenSpec.upto viterbiResultSpec)

/-- 'stelelaw10.ViterbiCosts', WHERE WHAT IT READS IS OF BULK AT MOST 1048576: true; the input reads as it did. -/
def viterbiCostsUptoRow : OpenClaim := { program := "ytmkmikegddafdaa", sum := "ff8a80705b9a9a753822d52e97dc04b60515a1547a6f55550ce40fb2320bf7f0", func := "stele/stelelaw10.ViterbiCosts", spec := "viterbiCosts", apart := false, narrowed := true }
def ViterbiCostsUptoSaid : Prop := viterbiCostsUptoRow.holds Try.pinned (OpenSpec.upto viterbiCostsSpec)

/-- 'stelelaw10.ViterbiOptimality', WHERE WHAT IT READS IS OF BULK AT MOST 1048576: true; the input reads as it did. -/
def viterbiOptimalityUptoRow : OpenClaim := { program := "ytmkmikegddafdaa", sum := "ff8a80705b9a9a753822d52e97dc04b60515a1547a6f55550ce40fb2320bf7f0", func := "stele/stelelaw10.ViterbiOptimality", spec := "viterbiOptimality", inPlace := ["internal/bytealg.IndexByteString", "internal/abi.NoEscape"], unfollowed := true, recurses := true, apart := false, narrowed := true }
def ViterbiOptimalityUptoSaid : Prop := viterbiOptimalityUptoRow.holds Try.pinned (OpenSpec.upto viterbiOptimalitySpec)

/-- 'stelelaw10.ViterbiCorrection', WHERE WHAT IT READS IS OF BULK AT MOST 1048576: true; the input reads as it did. -/
def viterbiCorrectionUptoRow : OpenClaim := { program := "ytmkmikegddafdaa", sum := "ff8a80705b9a9a753822d52e97dc04b60515a1547a6f55550ce40fb2320bf7f0", func := "stele/stelelaw10.ViterbiCorrection", spec := "viterbiCorrection", inPlace := ["internal/bytealg.IndexByteString", "internal/abi.NoEscape"], unfollowed := true, recurses := true, apart := false, narrowed := true }
def ViterbiCorrectionUptoSaid : Prop := viterbiCorrectionUptoRow.holds Try.pinned (OpenSpec.upto viterbiCorrectionSpec)

/-- 'stelelaw10.ViterbiErasures', WHERE WHAT IT READS IS OF BULK AT MOST 1048576: true; the input reads as it did. -/
def viterbiErasuresUptoRow : OpenClaim := { program := "ytmkmikegddafdaa", sum := "ff8a80705b9a9a753822d52e97dc04b60515a1547a6f55550ce40fb2320bf7f0", func := "stele/stelelaw10.ViterbiErasures", spec := "viterbiErasures", inPlace := ["internal/bytealg.IndexByteString", "internal/abi.NoEscape"], unfollowed := true, recurses := true, apart := false, narrowed := true }
def ViterbiErasuresUptoSaid : Prop := viterbiErasuresUptoRow.holds Try.pinned (OpenSpec.upto viterbiErasuresSpec)

/-- 'stelelaw10.ViterbiTransitions', WHERE WHAT IT READS IS OF BULK AT MOST 1048576: true; the input reads as it did. -/
def viterbiTransitionsUptoRow : OpenClaim := { program := "ytmkmikegddafdaa", sum := "ff8a80705b9a9a753822d52e97dc04b60515a1547a6f55550ce40fb2320bf7f0", func := "stele/stelelaw10.ViterbiTransitions", spec := "viterbiTransitions", apart := false, narrowed := true }
def ViterbiTransitionsUptoSaid : Prop := viterbiTransitionsUptoRow.holds Try.pinned (OpenSpec.upto viterbiTransitionsSpec)

/-- 'stelelaw10.ViterbiMonotonicity', WHERE WHAT IT READS IS OF BULK AT MOST 1048576: true; the input reads as it did. -/
def viterbiMonotonicityUptoRow : OpenClaim := { program := "ytmkmikegddafdaa", sum := "ff8a80705b9a9a753822d52e97dc04b60515a1547a6f55550ce40fb2320bf7f0", func := "stele/stelelaw10.ViterbiMonotonicity", spec := "viterbiMonotonicity", apart := false, narrowed := true }
def ViterbiMonotonicityUptoSaid : Prop := viterbiMonotonicityUptoRow.holds Try.pinned (OpenSpec.upto viterbiMonotonicitySpec)

/-- 'stelelaw10.ViterbiExtract', WHERE WHAT IT READS IS OF BULK AT MOST 1048576: true; the input reads as it did. -/
def viterbiExtractUptoRow : OpenClaim := { program := "ytmkmikegddafdaa", sum := "ff8a80705b9a9a753822d52e97dc04b60515a1547a6f55550ce40fb2320bf7f0", func := "stele/stelelaw10.ViterbiExtract", spec := "viterbiExtract", inPlace := ["internal/bytealg.IndexByteString", "internal/abi.NoEscape"], unfollowed := true, recurses := true, apart := false, narrowed := true }
def ViterbiExtractUptoSaid : Prop := viterbiExtractUptoRow.holds Try.pinned (OpenSpec.upto viterbiExtractSpec)

end Rows
end Go.Proofs.Ytmkmikegddafdaa
