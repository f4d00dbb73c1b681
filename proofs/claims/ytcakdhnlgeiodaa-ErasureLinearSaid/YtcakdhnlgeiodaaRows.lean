/-
  No cell of these rows narrows 'for every input' (looked for: loops, veiled, ifaces, maps, wideKeys, modest, calm, conditions, laid).
  DERIVED. THE GIVEN ROWS OF THIS SEAT. 8 by the template 'for every input the law returns true; each argument reads behind the call as it read before'; 0 by the template 'total and deterministic' (their statements: YtcakdhnlgeiodaaTotals.lean).
  GIVEN WITH THE SEED: the statements are not yours to turn. If you find one false, say at which input.
  Laid BY PROGRAM, IN A SANDBOX (cutbox-rows.mjs): the forced cells as the released guide's own fill.sh prints them over the translation 643693d1b4652c10… (all of the seat's roots in one cut). By AI agents, Wed Nov 11 2026. No macro, syntax, notation, axiom, sorry.
-/
import Derived.Test.YtcakdhnlgeiodaaChecked
import GoSem.Claim
import GoSem.ClaimJoined
import GoSem.ClaimMapViews
import Derived.JoinedTies
import Derived.KernelRfl
namespace Go.Proofs.Ytcakdhnlgeiodaa
/- THE CELL 'sum', in the pinned program and in every row, IS THE sha256 OF THE DUMP (.gsa) THAT YtcakdhnlgeiodaaProg.lean LOADS. Nothing in Lean hashes anything: it is a label: what it is worth is what the hold of that sum in a sandbox is worth. -/
noncomputable def Try.pinned : Pinned := { name := "ytcakdhnlgeiodaa", sum := "643693d1b4652c109f9908301bd857c1309e732409f6022f6dfb106e1a655656", checked := Try.checked }
namespace Rows
def none {H : Type} : Left H := { results := [], args := [] }

/-- 'stelelaw15.ErasureValues': WHATEVER THE INPUT: true; the input reads as it did. -/
def erasureValuesSpec : ChangeSpec := { name := "erasureValues", fn := fun _ => fun
  | [d1, d2] => { results := [.lit (.bool true)], args := [d1, d2] }
  | _ => none }
def erasureValuesRow : OpenClaim := { program := "ytcakdhnlgeiodaa", sum := "643693d1b4652c109f9908301bd857c1309e732409f6022f6dfb106e1a655656", func := "stele/stelelaw15.ErasureValues", spec := "erasureValues", unfollowed := true, recurses := true, apart := false }
def ErasureValuesSaid : Prop := erasureValuesRow.holds Try.pinned (OpenSpec.ofChange erasureValuesSpec)

/-- ITS FALSE NEIGHBOUR: 'it returns false'. Refute it at one input. -/
def erasureValuesWrong : ChangeSpec := { name := "erasureValues", fn := fun _ => fun
  | [d1, d2] => { results := [.lit (.bool false)], args := [d1, d2] }
  | _ => none }
def ErasureValuesWrongFalsely : Prop := erasureValuesRow.holds Try.pinned (OpenSpec.ofChange erasureValuesWrong)

/-- 'stelelaw15.ErasureShares': WHATEVER THE INPUT: true; the input reads as it did. -/
def erasureSharesSpec : ChangeSpec := { name := "erasureShares", fn := fun _ => fun
  | [d1, d2, d3] => { results := [.lit (.bool true)], args := [d1, d2, d3] }
  | _ => none }
def erasureSharesRow : OpenClaim := { program := "ytcakdhnlgeiodaa", sum := "643693d1b4652c109f9908301bd857c1309e732409f6022f6dfb106e1a655656", func := "stele/stelelaw15.ErasureShares", spec := "erasureShares", unfollowed := true, recurses := true, apart := false }
def ErasureSharesSaid : Prop := erasureSharesRow.holds Try.pinned (OpenSpec.ofChange erasureSharesSpec)

/-- ITS FALSE NEIGHBOUR: 'it returns false'. Refute it at one input. -/
def erasureSharesWrong : ChangeSpec := { name := "erasureShares", fn := fun _ => fun
  | [d1, d2, d3] => { results := [.lit (.bool false)], args := [d1, d2, d3] }
  | _ => none }
def ErasureSharesWrongFalsely : Prop := erasureSharesRow.holds Try.pinned (OpenSpec.ofChange erasureSharesWrong)

/-- 'stelelaw15.ErasureRecovers': WHATEVER THE INPUT: true; the input reads as it did. -/
def erasureRecoversSpec : ChangeSpec := { name := "erasureRecovers", fn := fun _ => fun
  | [d1, d2, d3] => { results := [.lit (.bool true)], args := [d1, d2, d3] }
  | _ => none }
def erasureRecoversRow : OpenClaim := { program := "ytcakdhnlgeiodaa", sum := "643693d1b4652c109f9908301bd857c1309e732409f6022f6dfb106e1a655656", func := "stele/stelelaw15.ErasureRecovers", spec := "erasureRecovers", unfollowed := true, recurses := true, apart := false }
def ErasureRecoversSaid : Prop := erasureRecoversRow.holds Try.pinned (OpenSpec.ofChange erasureRecoversSpec)

/-- ITS FALSE NEIGHBOUR: 'it returns false'. Refute it at one input. -/
def erasureRecoversWrong : ChangeSpec := { name := "erasureRecovers", fn := fun _ => fun
  | [d1, d2, d3] => { results := [.lit (.bool false)], args := [d1, d2, d3] }
  | _ => none }
def ErasureRecoversWrongFalsely : Prop := erasureRecoversRow.holds Try.pinned (OpenSpec.ofChange erasureRecoversWrong)

/-- 'stelelaw15.ErasureRebuilds': WHATEVER THE INPUT: true; the input reads as it did. -/
def erasureRebuildsSpec : ChangeSpec := { name := "erasureRebuilds", fn := fun _ => fun
  | [d1, d2, d3, d4] => { results := [.lit (.bool true)], args := [d1, d2, d3, d4] }
  | _ => none }
def erasureRebuildsRow : OpenClaim := { program := "ytcakdhnlgeiodaa", sum := "643693d1b4652c109f9908301bd857c1309e732409f6022f6dfb106e1a655656", func := "stele/stelelaw15.ErasureRebuilds", spec := "erasureRebuilds", unfollowed := true, recurses := true, apart := false }
def ErasureRebuildsSaid : Prop := erasureRebuildsRow.holds Try.pinned (OpenSpec.ofChange erasureRebuildsSpec)

/-- ITS FALSE NEIGHBOUR: 'it returns false'. Refute it at one input. -/
def erasureRebuildsWrong : ChangeSpec := { name := "erasureRebuilds", fn := fun _ => fun
  | [d1, d2, d3, d4] => { results := [.lit (.bool false)], args := [d1, d2, d3, d4] }
  | _ => none }
def ErasureRebuildsWrongFalsely : Prop := erasureRebuildsRow.holds Try.pinned (OpenSpec.ofChange erasureRebuildsWrong)

/-- 'stelelaw15.ErasureDetects': WHATEVER THE INPUT: true; the input reads as it did. -/
def erasureDetectsSpec : ChangeSpec := { name := "erasureDetects", fn := fun _ => fun
  | [d1, d2, d3, d4, d5] => { results := [.lit (.bool true)], args := [d1, d2, d3, d4, d5] }
  | _ => none }
def erasureDetectsRow : OpenClaim := { program := "ytcakdhnlgeiodaa", sum := "643693d1b4652c109f9908301bd857c1309e732409f6022f6dfb106e1a655656", func := "stele/stelelaw15.ErasureDetects", spec := "erasureDetects", unfollowed := true, recurses := true, apart := false }
def ErasureDetectsSaid : Prop := erasureDetectsRow.holds Try.pinned (OpenSpec.ofChange erasureDetectsSpec)

/-- ITS FALSE NEIGHBOUR: 'it returns false'. Refute it at one input. -/
def erasureDetectsWrong : ChangeSpec := { name := "erasureDetects", fn := fun _ => fun
  | [d1, d2, d3, d4, d5] => { results := [.lit (.bool false)], args := [d1, d2, d3, d4, d5] }
  | _ => none }
def ErasureDetectsWrongFalsely : Prop := erasureDetectsRow.holds Try.pinned (OpenSpec.ofChange erasureDetectsWrong)

/-- 'stelelaw15.ErasureLinear': WHATEVER THE INPUT: true; the input reads as it did. -/
def erasureLinearSpec : ChangeSpec := { name := "erasureLinear", fn := fun _ => fun
  | [d1, d2, d3] => { results := [.lit (.bool true)], args := [d1, d2, d3] }
  | _ => none }
def erasureLinearRow : OpenClaim := { program := "ytcakdhnlgeiodaa", sum := "643693d1b4652c109f9908301bd857c1309e732409f6022f6dfb106e1a655656", func := "stele/stelelaw15.ErasureLinear", spec := "erasureLinear", unfollowed := true, recurses := true, apart := false }
def ErasureLinearSaid : Prop := erasureLinearRow.holds Try.pinned (OpenSpec.ofChange erasureLinearSpec)

/-- ITS FALSE NEIGHBOUR: 'it returns false'. Refute it at one input. -/
def erasureLinearWrong : ChangeSpec := { name := "erasureLinear", fn := fun _ => fun
  | [d1, d2, d3] => { results := [.lit (.bool false)], args := [d1, d2, d3] }
  | _ => none }
def ErasureLinearWrongFalsely : Prop := erasureLinearRow.holds Try.pinned (OpenSpec.ofChange erasureLinearWrong)

/-- 'stelelaw15.ErasureOrder': WHATEVER THE INPUT: true; the input reads as it did. -/
def erasureOrderSpec : ChangeSpec := { name := "erasureOrder", fn := fun _ => fun
  | [d1, d2, d3, d4] => { results := [.lit (.bool true)], args := [d1, d2, d3, d4] }
  | _ => none }
def erasureOrderRow : OpenClaim := { program := "ytcakdhnlgeiodaa", sum := "643693d1b4652c109f9908301bd857c1309e732409f6022f6dfb106e1a655656", func := "stele/stelelaw15.ErasureOrder", spec := "erasureOrder", unfollowed := true, recurses := true, apart := false }
def ErasureOrderSaid : Prop := erasureOrderRow.holds Try.pinned (OpenSpec.ofChange erasureOrderSpec)

/-- ITS FALSE NEIGHBOUR: 'it returns false'. Refute it at one input. -/
def erasureOrderWrong : ChangeSpec := { name := "erasureOrder", fn := fun _ => fun
  | [d1, d2, d3, d4] => { results := [.lit (.bool false)], args := [d1, d2, d3, d4] }
  | _ => none }
def ErasureOrderWrongFalsely : Prop := erasureOrderRow.holds Try.pinned (OpenSpec.ofChange erasureOrderWrong)

/-- 'stelelaw15.ErasureInterpolates': WHATEVER THE INPUT: true; the input reads as it did. -/
def erasureInterpolatesSpec : ChangeSpec := { name := "erasureInterpolates", fn := fun _ => fun
  | [d1, d2, d3] => { results := [.lit (.bool true)], args := [d1, d2, d3] }
  | _ => none }
def erasureInterpolatesRow : OpenClaim := { program := "ytcakdhnlgeiodaa", sum := "643693d1b4652c109f9908301bd857c1309e732409f6022f6dfb106e1a655656", func := "stele/stelelaw15.ErasureInterpolates", spec := "erasureInterpolates", unfollowed := true, recurses := true, apart := false }
def ErasureInterpolatesSaid : Prop := erasureInterpolatesRow.holds Try.pinned (OpenSpec.ofChange erasureInterpolatesSpec)

/-- ITS FALSE NEIGHBOUR: 'it returns false'. Refute it at one input. -/
def erasureInterpolatesWrong : ChangeSpec := { name := "erasureInterpolates", fn := fun _ => fun
  | [d1, d2, d3] => { results := [.lit (.bool false)], args := [d1, d2, d3] }
  | _ => none }
def ErasureInterpolatesWrongFalsely : Prop := erasureInterpolatesRow.holds Try.pinned (OpenSpec.ofChange erasureInterpolatesWrong)

/- THE SECOND FORM. 'bulk': how many values and letters a reading holds, each counted each time it is reached (what is shared counts as often as it is met; a slice's spare places count too). A statement '..UptoSaid' is the law's where the arguments, and the package variables that the reading takes, are together of bulk at most 1048576: NARROWER than '..Said'. Prove '..Said' where nothing that the law and all that it calls make is longer than what came in: it says more and counts as full. Else prove '..UptoSaid'. A law counts once. -/
mutual
def uptoBulk {H : Type} : DataW H → Nat
  | .lit (.string bytes) => bytes.length + 1
  | .lit _ => 1
  | .nil => 1
  | .ptr d => uptoBulk d + 1
  | .slice elems spare => uptoBulkAll elems + uptoBulkAll spare + 1
  | .agg parts => uptoBulkAll parts + 1
  | .iface _ d => uptoBulk d + 1
  | .map entries => uptoBulkEntries entries + 1
  | .held _ => 1
def uptoBulkAll {H : Type} : List (DataW H) → Nat
  | [] => 0
  | d :: r => uptoBulk d + uptoBulkAll r
def uptoBulkEntries {H : Type} : List (Lit × DataW H) → Nat
  | [] => 0
  | x :: r => uptoBulkEntry x + uptoBulkEntries r
def uptoBulkEntry {H : Type} : Lit × DataW H → Nat
  | (.string bytes, d) => bytes.length + uptoBulk d + 1
  | (_, d) => uptoBulk d + 1
 end
def uptoSmall : (H : Type) → List (DataW H) → Bool := fun _ ds => decide (uptoBulkAll ds ≤ 1048576)
def OpenSpec.upto (s : _root_.Go.ChangeSpec) : _root_.Go.OpenSpec := { _root_.Go.OpenSpec.ofChange s with cond := some uptoSmall }

/-- 'stelelaw15.ErasureValues', WHERE WHAT IT READS IS OF BULK AT MOST 1048576: true; the input reads as it did. -/
def erasureValuesUptoRow : OpenClaim := { program := "ytcakdhnlgeiodaa", sum := "643693d1b4652c109f9908301bd857c1309e732409f6022f6dfb106e1a655656", func := "stele/stelelaw15.ErasureValues", spec := "erasureValues", unfollowed := true, recurses := true, apart := false, narrowed := true }
def ErasureValuesUptoSaid : Prop := erasureValuesUptoRow.holds Try.pinned (OpenSpec.upto erasureValuesSpec)

/-- 'stelelaw15.ErasureShares', WHERE WHAT IT READS IS OF BULK AT MOST 1048576: true; the input reads as it did. -/
def erasureSharesUptoRow : OpenClaim := { program := "ytcakdhnlgeiodaa", sum := "643693d1b4652c109f9908301bd857c1309e732409f6022f6dfb106e1a655656", func := "stele/stelelaw15.ErasureShares", spec := "erasureShares", unfollowed := true, recurses := true, apart := false, narrowed := true }
def ErasureSharesUptoSaid : Prop := erasureSharesUptoRow.holds Try.pinned (OpenSpec.upto erasureSharesSpec)

/-- 'stelelaw15.ErasureRecovers', WHERE WHAT IT READS IS OF BULK AT MOST 1048576: true; the input reads as it did. -/
def erasureRecoversUptoRow : OpenClaim := { program := "ytcakdhnlgeiodaa", sum := "643693d1b4652c109f9908301bd857c1309e732409f6022f6dfb106e1a655656", func := "stele/stelelaw15.ErasureRecovers", spec := "erasureRecovers", unfollowed := true, recurses := true, apart := false, narrowed := true }
def ErasureRecoversUptoSaid : Prop := erasureRecoversUptoRow.holds Try.pinned (OpenSpec.upto erasureRecoversSpec)

/-- 'stelelaw15.ErasureRebuilds', WHERE WHAT IT READS IS OF BULK AT MOST 1048576: true; the input reads as it did. -/
def erasureRebuildsUptoRow : OpenClaim := { program := "ytcakdhnlgeiodaa", sum := "643693d1b4652c109f9908301bd857c1309e732409f6022f6dfb106e1a655656", func := "stele/stelelaw15.ErasureRebuilds", spec := "erasureRebuilds", unfollowed := true, recurses := true, apart := false, narrowed := true }
def ErasureRebuildsUptoSaid : Prop := erasureRebuildsUptoRow.holds Try.pinned (OpenSpec.upto erasureRebuildsSpec)

/-- 'stelelaw15.ErasureDetects', WHERE WHAT IT READS IS OF BULK AT MOST 1048576: true; the input reads as it did. -/
def erasureDetectsUptoRow : OpenClaim := { program := "ytcakdhnlgeiodaa", sum := "643693d1b4652c109f9908301bd857c1309e732409f6022f6dfb106e1a655656", func := "stele/stelelaw15.ErasureDetects", spec := "erasureDetects", unfollowed := true, recurses := true, apart := false, narrowed := true }
def ErasureDetectsUptoSaid : Prop := erasureDetectsUptoRow.holds Try.pinned (OpenSpec.upto erasureDetectsSpec)

/-- 'stelelaw15.ErasureLinear', WHERE WHAT IT READS IS OF BULK AT MOST 1048576: true; the input reads as it did. -/
def erasureLinearUptoRow : OpenClaim := { program := "ytcakdhnlgeiodaa", sum := "643693d1b4652c109f9908301bd857c1309e732409f6022f6dfb106e1a655656", func := "stele/stelelaw15.ErasureLinear", spec := "erasureLinear", unfollowed := true, recurses := true, apart := false, narrowed := true }
def ErasureLinearUptoSaid : Prop := erasureLinearUptoRow.holds Try.pinned (OpenSpec.upto erasureLinearSpec)

/-- 'stelelaw15.ErasureOrder', WHERE WHAT IT READS IS OF BULK AT MOST 1048576: true; the input reads as it did. -/
def erasureOrderUptoRow : OpenClaim := { program := "ytcakdhnlgeiodaa", sum := "643693d1b4652c109f9908301bd857c1309e732409f6022f6dfb106e1a655656", func := "stele/stelelaw15.ErasureOrder", spec := "erasureOrder", unfollowed := true, recurses := true, apart := false, narrowed := true }
def ErasureOrderUptoSaid : Prop := erasureOrderUptoRow.holds Try.pinned (OpenSpec.upto erasureOrderSpec)

/-- 'stelelaw15.ErasureInterpolates', WHERE WHAT IT READS IS OF BULK AT MOST 1048576: true; the input reads as it did. -/
def erasureInterpolatesUptoRow : OpenClaim := { program := "ytcakdhnlgeiodaa", sum := "643693d1b4652c109f9908301bd857c1309e732409f6022f6dfb106e1a655656", func := "stele/stelelaw15.ErasureInterpolates", spec := "erasureInterpolates", unfollowed := true, recurses := true, apart := false, narrowed := true }
def ErasureInterpolatesUptoSaid : Prop := erasureInterpolatesUptoRow.holds Try.pinned (OpenSpec.upto erasureInterpolatesSpec)

end Rows
end Go.Proofs.Ytcakdhnlgeiodaa
