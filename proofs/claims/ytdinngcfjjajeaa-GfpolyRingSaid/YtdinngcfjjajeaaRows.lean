/-
  No cell of these rows narrows 'for every input' (looked for: loops, veiled, ifaces, maps, wideKeys, modest, calm, conditions, laid).
  DERIVED. THE GIVEN ROWS OF THIS SEAT. 9 by the template 'for every input the law returns true; each argument reads behind the call as it read before'; 0 by the template 'total and deterministic' (their statements: YtdinngcfjjajeaaTotals.lean).
  GIVEN WITH THE SEED: the statements are not yours to turn. If you find one false, say at which input.
  Laid BY PROGRAM, IN A SANDBOX (cutbox-rows.mjs): the forced cells as the released guide's own fill.sh prints them over the translation 837c14e7a6c83629… (all of the seat's roots in one cut). By AI agents, Wed Nov 11 2026. No macro, syntax, notation, axiom, sorry.
-/
import Derived.Test.YtdinngcfjjajeaaChecked
import GoSem.Claim
import GoSem.ClaimJoined
import GoSem.ClaimMapViews
import Derived.JoinedTies
import Derived.KernelRfl
namespace Go.Proofs.Ytdinngcfjjajeaa
/- THE CELL 'sum', in the pinned program and in every row, IS THE sha256 OF THE DUMP (.gsa) THAT YtdinngcfjjajeaaProg.lean LOADS. Nothing in Lean hashes anything: it is a label: what it is worth is what the hold of that sum in a sandbox is worth. -/
noncomputable def Try.pinned : Pinned := { name := "ytdinngcfjjajeaa", sum := "837c14e7a6c8362970f0da9be3f94e208990638df83e599aab573ef74b6d221a", checked := Try.checked }
namespace Rows
def none {H : Type} : Left H := { results := [], args := [] }

/-- 'stelelaw06.GfpolyArithmetic': WHATEVER THE INPUT: true; the input reads as it did. -/
def gfpolyArithmeticSpec : ChangeSpec := { name := "gfpolyArithmetic", fn := fun _ => fun
  | [d1, d2, d3] => { results := [.lit (.bool true)], args := [d1, d2, d3] }
  | _ => none }
def gfpolyArithmeticRow : OpenClaim := { program := "ytdinngcfjjajeaa", sum := "837c14e7a6c8362970f0da9be3f94e208990638df83e599aab573ef74b6d221a", func := "stele/stelelaw06.GfpolyArithmetic", spec := "gfpolyArithmetic", unfollowed := true, recurses := true, apart := false }
def GfpolyArithmeticSaid : Prop := gfpolyArithmeticRow.holds Try.pinned (OpenSpec.ofChange gfpolyArithmeticSpec)

/-- ITS FALSE NEIGHBOUR: 'it returns false'. Refute it at one input. -/
def gfpolyArithmeticWrong : ChangeSpec := { name := "gfpolyArithmetic", fn := fun _ => fun
  | [d1, d2, d3] => { results := [.lit (.bool false)], args := [d1, d2, d3] }
  | _ => none }
def GfpolyArithmeticWrongFalsely : Prop := gfpolyArithmeticRow.holds Try.pinned (OpenSpec.ofChange gfpolyArithmeticWrong)

/-- 'stelelaw06.GfpolyProducts': WHATEVER THE INPUT: true; the input reads as it did. -/
def gfpolyProductsSpec : ChangeSpec := { name := "gfpolyProducts", fn := fun _ => fun
  | [d1, d2] => { results := [.lit (.bool true)], args := [d1, d2] }
  | _ => none }
def gfpolyProductsRow : OpenClaim := { program := "ytdinngcfjjajeaa", sum := "837c14e7a6c8362970f0da9be3f94e208990638df83e599aab573ef74b6d221a", func := "stele/stelelaw06.GfpolyProducts", spec := "gfpolyProducts", unfollowed := true, recurses := true, apart := false }
def GfpolyProductsSaid : Prop := gfpolyProductsRow.holds Try.pinned (OpenSpec.ofChange gfpolyProductsSpec)

/-- ITS FALSE NEIGHBOUR: 'it returns false'. Refute it at one input. -/
def gfpolyProductsWrong : ChangeSpec := { name := "gfpolyProducts", fn := fun _ => fun
  | [d1, d2] => { results := [.lit (.bool false)], args := [d1, d2] }
  | _ => none }
def GfpolyProductsWrongFalsely : Prop := gfpolyProductsRow.holds Try.pinned (OpenSpec.ofChange gfpolyProductsWrong)

/-- 'stelelaw06.GfpolyInterpolation': WHATEVER THE INPUT: true; the input reads as it did. -/
def gfpolyInterpolationSpec : ChangeSpec := { name := "gfpolyInterpolation", fn := fun _ => fun
  | [d1, d2] => { results := [.lit (.bool true)], args := [d1, d2] }
  | _ => none }
def gfpolyInterpolationRow : OpenClaim := { program := "ytdinngcfjjajeaa", sum := "837c14e7a6c8362970f0da9be3f94e208990638df83e599aab573ef74b6d221a", func := "stele/stelelaw06.GfpolyInterpolation", spec := "gfpolyInterpolation", unfollowed := true, recurses := true, apart := false }
def GfpolyInterpolationSaid : Prop := gfpolyInterpolationRow.holds Try.pinned (OpenSpec.ofChange gfpolyInterpolationSpec)

/-- ITS FALSE NEIGHBOUR: 'it returns false'. Refute it at one input. -/
def gfpolyInterpolationWrong : ChangeSpec := { name := "gfpolyInterpolation", fn := fun _ => fun
  | [d1, d2] => { results := [.lit (.bool false)], args := [d1, d2] }
  | _ => none }
def GfpolyInterpolationWrongFalsely : Prop := gfpolyInterpolationRow.holds Try.pinned (OpenSpec.ofChange gfpolyInterpolationWrong)

/-- 'stelelaw06.GfpolyRing': WHATEVER THE INPUT: true; the input reads as it did. -/
def gfpolyRingSpec : ChangeSpec := { name := "gfpolyRing", fn := fun _ => fun
  | [d1, d2, d3] => { results := [.lit (.bool true)], args := [d1, d2, d3] }
  | _ => none }
def gfpolyRingRow : OpenClaim := { program := "ytdinngcfjjajeaa", sum := "837c14e7a6c8362970f0da9be3f94e208990638df83e599aab573ef74b6d221a", func := "stele/stelelaw06.GfpolyRing", spec := "gfpolyRing", unfollowed := true, recurses := true, apart := false }
def GfpolyRingSaid : Prop := gfpolyRingRow.holds Try.pinned (OpenSpec.ofChange gfpolyRingSpec)

/-- ITS FALSE NEIGHBOUR: 'it returns false'. Refute it at one input. -/
def gfpolyRingWrong : ChangeSpec := { name := "gfpolyRing", fn := fun _ => fun
  | [d1, d2, d3] => { results := [.lit (.bool false)], args := [d1, d2, d3] }
  | _ => none }
def GfpolyRingWrongFalsely : Prop := gfpolyRingRow.holds Try.pinned (OpenSpec.ofChange gfpolyRingWrong)

/-- 'stelelaw06.GfpolyDivision': WHATEVER THE INPUT: true; the input reads as it did. -/
def gfpolyDivisionSpec : ChangeSpec := { name := "gfpolyDivision", fn := fun _ => fun
  | [d1, d2] => { results := [.lit (.bool true)], args := [d1, d2] }
  | _ => none }
def gfpolyDivisionRow : OpenClaim := { program := "ytdinngcfjjajeaa", sum := "837c14e7a6c8362970f0da9be3f94e208990638df83e599aab573ef74b6d221a", func := "stele/stelelaw06.GfpolyDivision", spec := "gfpolyDivision", unfollowed := true, recurses := true, apart := false }
def GfpolyDivisionSaid : Prop := gfpolyDivisionRow.holds Try.pinned (OpenSpec.ofChange gfpolyDivisionSpec)

/-- ITS FALSE NEIGHBOUR: 'it returns false'. Refute it at one input. -/
def gfpolyDivisionWrong : ChangeSpec := { name := "gfpolyDivision", fn := fun _ => fun
  | [d1, d2] => { results := [.lit (.bool false)], args := [d1, d2] }
  | _ => none }
def GfpolyDivisionWrongFalsely : Prop := gfpolyDivisionRow.holds Try.pinned (OpenSpec.ofChange gfpolyDivisionWrong)

/-- 'stelelaw06.GfpolyHomomorphism': WHATEVER THE INPUT: true; the input reads as it did. -/
def gfpolyHomomorphismSpec : ChangeSpec := { name := "gfpolyHomomorphism", fn := fun _ => fun
  | [d1, d2, d3] => { results := [.lit (.bool true)], args := [d1, d2, d3] }
  | _ => none }
def gfpolyHomomorphismRow : OpenClaim := { program := "ytdinngcfjjajeaa", sum := "837c14e7a6c8362970f0da9be3f94e208990638df83e599aab573ef74b6d221a", func := "stele/stelelaw06.GfpolyHomomorphism", spec := "gfpolyHomomorphism", unfollowed := true, recurses := true, apart := false }
def GfpolyHomomorphismSaid : Prop := gfpolyHomomorphismRow.holds Try.pinned (OpenSpec.ofChange gfpolyHomomorphismSpec)

/-- ITS FALSE NEIGHBOUR: 'it returns false'. Refute it at one input. -/
def gfpolyHomomorphismWrong : ChangeSpec := { name := "gfpolyHomomorphism", fn := fun _ => fun
  | [d1, d2, d3] => { results := [.lit (.bool false)], args := [d1, d2, d3] }
  | _ => none }
def GfpolyHomomorphismWrongFalsely : Prop := gfpolyHomomorphismRow.holds Try.pinned (OpenSpec.ofChange gfpolyHomomorphismWrong)

/-- 'stelelaw06.GfpolyProductRule': WHATEVER THE INPUT: true; the input reads as it did. -/
def gfpolyProductRuleSpec : ChangeSpec := { name := "gfpolyProductRule", fn := fun _ => fun
  | [d1, d2] => { results := [.lit (.bool true)], args := [d1, d2] }
  | _ => none }
def gfpolyProductRuleRow : OpenClaim := { program := "ytdinngcfjjajeaa", sum := "837c14e7a6c8362970f0da9be3f94e208990638df83e599aab573ef74b6d221a", func := "stele/stelelaw06.GfpolyProductRule", spec := "gfpolyProductRule", unfollowed := true, recurses := true, apart := false }
def GfpolyProductRuleSaid : Prop := gfpolyProductRuleRow.holds Try.pinned (OpenSpec.ofChange gfpolyProductRuleSpec)

/-- ITS FALSE NEIGHBOUR: 'it returns false'. Refute it at one input. -/
def gfpolyProductRuleWrong : ChangeSpec := { name := "gfpolyProductRule", fn := fun _ => fun
  | [d1, d2] => { results := [.lit (.bool false)], args := [d1, d2] }
  | _ => none }
def GfpolyProductRuleWrongFalsely : Prop := gfpolyProductRuleRow.holds Try.pinned (OpenSpec.ofChange gfpolyProductRuleWrong)

/-- 'stelelaw06.GfpolyInterpolates': WHATEVER THE INPUT: true; the input reads as it did. -/
def gfpolyInterpolatesSpec : ChangeSpec := { name := "gfpolyInterpolates", fn := fun _ => fun
  | [d1, d2, d3] => { results := [.lit (.bool true)], args := [d1, d2, d3] }
  | _ => none }
def gfpolyInterpolatesRow : OpenClaim := { program := "ytdinngcfjjajeaa", sum := "837c14e7a6c8362970f0da9be3f94e208990638df83e599aab573ef74b6d221a", func := "stele/stelelaw06.GfpolyInterpolates", spec := "gfpolyInterpolates", unfollowed := true, recurses := true, apart := false }
def GfpolyInterpolatesSaid : Prop := gfpolyInterpolatesRow.holds Try.pinned (OpenSpec.ofChange gfpolyInterpolatesSpec)

/-- ITS FALSE NEIGHBOUR: 'it returns false'. Refute it at one input. -/
def gfpolyInterpolatesWrong : ChangeSpec := { name := "gfpolyInterpolates", fn := fun _ => fun
  | [d1, d2, d3] => { results := [.lit (.bool false)], args := [d1, d2, d3] }
  | _ => none }
def GfpolyInterpolatesWrongFalsely : Prop := gfpolyInterpolatesRow.holds Try.pinned (OpenSpec.ofChange gfpolyInterpolatesWrong)

/-- 'stelelaw06.GfpolyRoots': WHATEVER THE INPUT: true; the input reads as it did. -/
def gfpolyRootsSpec : ChangeSpec := { name := "gfpolyRoots", fn := fun _ => fun
  | [d1, d2] => { results := [.lit (.bool true)], args := [d1, d2] }
  | _ => none }
def gfpolyRootsRow : OpenClaim := { program := "ytdinngcfjjajeaa", sum := "837c14e7a6c8362970f0da9be3f94e208990638df83e599aab573ef74b6d221a", func := "stele/stelelaw06.GfpolyRoots", spec := "gfpolyRoots", unfollowed := true, recurses := true, apart := false }
def GfpolyRootsSaid : Prop := gfpolyRootsRow.holds Try.pinned (OpenSpec.ofChange gfpolyRootsSpec)

/-- ITS FALSE NEIGHBOUR: 'it returns false'. Refute it at one input. -/
def gfpolyRootsWrong : ChangeSpec := { name := "gfpolyRoots", fn := fun _ => fun
  | [d1, d2] => { results := [.lit (.bool false)], args := [d1, d2] }
  | _ => none }
def GfpolyRootsWrongFalsely : Prop := gfpolyRootsRow.holds Try.pinned (OpenSpec.ofChange gfpolyRootsWrong)

/- THE SECOND FORM. 'bulk': how many values and letters a reading holds, each counted each time it is reached (what is shared counts as often as it is met; a slice's spare places count too). A statement '..UptoSaid' is the law's where the arguments, and the package variables that the reading takes, are together of bulk at most 1048576: NARROWER than '..Said'. Prove '..Said' where nothing that the law and all that it calls make is longer than what came in: it says more and counts as full. Else prove '..UptoSaid'. A law counts once. -/
mutual
def uptoBulk {H : Type} : DataW H → Nat
  | .lit (.string bytes) => bytes.length + 1
  | .lit _ => 1
  | .nil => 1
  | .ptr d => uptoBulk d + 1
  | .slice elems spare => uptoBulkAll elems + uptoBulkAll spare + 1
  | .agg parts => uptoBulkAll parts + 1
  | .iface _ d => uptoBulk d + 1
  | .map entries => uptoBulkEntries entries + 1
  | .held _ => 1
def uptoBulkAll {H : Type} : List (DataW H) → Nat
  | [] => 0
  | d :: r => uptoBulk d + uptoBulkAll r
def uptoBulkEntries {H : Type} : List (Lit × DataW H) → Nat
  | [] => 0
  | x :: r => uptoBulkEntry x + uptoBulkEntries r
def uptoBulkEntry {H : Type} : Lit × DataW H → Nat
  | (.string bytes, d) => bytes.length + uptoBulk d + 1
  | (_, d) => uptoBulk d + 1
 end
def uptoSmall : (H : Type) → List (DataW H) → Bool := fun _ ds => decide (uptoBulkAll ds ≤ 1048576)
def OpenSpec.upto (s : _root_.Go.ChangeSpec) : _root_.Go.OpenSpec := { _root_.Go.OpenSpec.ofChange s with cond := some uptoSmall }

/-- 'stelelaw06.GfpolyArithmetic', WHERE WHAT IT READS IS OF BULK AT MOST 1048576: true; the input reads as it did. -/
def gfpolyArithmeticUptoRow : OpenClaim := { program := "ytdinngcfjjajeaa", sum := "837c14e7a6c8362970f0da9be3f94e208990638df83e599aab573ef74b6d221a", func := "stele/stelelaw06.GfpolyArithmetic", spec := "gfpolyArithmetic", unfollowed := true, recurses := true, apart := false, narrowed := true }
def GfpolyArithmeticUptoSaid : Prop := gfpolyArithmeticUptoRow.holds Try.pinned (OpenSpec.upto gfpolyArithmeticSpec)

/-- 'stelelaw06.GfpolyProducts', WHERE WHAT IT READS IS OF BULK AT MOST 1048576: true; the input reads as it did. -/
def gfpolyProductsUptoRow : OpenClaim := { program := "ytdinngcfjjajeaa", sum := "837c14e7a6c8362970f0da9be3f94e208990638df83e599aab573ef74b6d221a", func := "stele/stelelaw06.GfpolyProducts", spec := "gfpolyProducts", unfollowed := true, recurses := true, apart := false, narrowed := true }
def GfpolyProductsUptoSaid : Prop := gfpolyProductsUptoRow.holds Try.pinned (OpenSpec.upto gfpolyProductsSpec)

/-- 'stelelaw06.GfpolyInterpolation', WHERE WHAT IT READS IS OF BULK AT MOST 1048576: true; the input reads as it did. -/
def gfpolyInterpolationUptoRow : OpenClaim := { program := "ytdinngcfjjajeaa", sum := "837c14e7a6c8362970f0da9be3f94e208990638df83e599aab573ef74b6d221a", func := "stele/stelelaw06.GfpolyInterpolation", spec := "gfpolyInterpolation", unfollowed := true, recurses := true, apart := false, narrowed := true }
def GfpolyInterpolationUptoSaid : Prop := gfpolyInterpolationUptoRow.holds Try.pinned (OpenSpec.upto gfpolyInterpolationSpec)

/-- 'stelelaw06.GfpolyRing', WHERE WHAT IT READS IS OF BULK AT MOST 1048576: true; the input reads as it did. -/
def gfpolyRingUptoRow : OpenClaim := { program := "ytdinngcfjjajeaa", sum := "837c14e7a6c8362970f0da9be3f94e208990638df83e599aab573ef74b6d221a", func := "stele/stelelaw06.GfpolyRing", spec := "gfpolyRing", unfollowed := true, recurses := true, apart := false, narrowed := true }
def GfpolyRingUptoSaid : Prop := gfpolyRingUptoRow.holds Try.pinned (OpenSpec.upto gfpolyRingSpec)

/-- 'stelelaw06.GfpolyDivision', WHERE WHAT IT READS IS OF BULK AT MOST 1048576: true; the input reads as it did. -/
def gfpolyDivisionUptoRow : OpenClaim := { program := "ytdinngcfjjajeaa", sum := "837c14e7a6c8362970f0da9be3f94e208990638df83e599aab573ef74b6d221a", func := "stele/stelelaw06.GfpolyDivision", spec := "gfpolyDivision", unfollowed := true, recurses := true, apart := false, narrowed := true }
def GfpolyDivisionUptoSaid : Prop := gfpolyDivisionUptoRow.holds Try.pinned (OpenSpec.upto gfpolyDivisionSpec)

/-- 'stelelaw06.GfpolyHomomorphism', WHERE WHAT IT READS IS OF BULK AT MOST 1048576: true; the input reads as it did. -/
def gfpolyHomomorphismUptoRow : OpenClaim := { program := "ytdinngcfjjajeaa", sum := "837c14e7a6c8362970f0da9be3f94e208990638df83e599aab573ef74b6d221a", func := "stele/stelelaw06.GfpolyHomomorphism", spec := "gfpolyHomomorphism", unfollowed := true, recurses := true, apart := false, narrowed := true }
def GfpolyHomomorphismUptoSaid : Prop := gfpolyHomomorphismUptoRow.holds Try.pinned (OpenSpec.upto gfpolyHomomorphismSpec)

/-- 'stelelaw06.GfpolyProductRule', WHERE WHAT IT READS IS OF BULK AT MOST 1048576: true; the input reads as it did. -/
def gfpolyProductRuleUptoRow : OpenClaim := { program := "ytdinngcfjjajeaa", sum := "837c14e7a6c8362970f0da9be3f94e208990638df83e599aab573ef74b6d221a", func := "stele/stelelaw06.GfpolyProductRule", spec := "gfpolyProductRule", unfollowed := true, recurses := true, apart := false, narrowed := true }
def GfpolyProductRuleUptoSaid : Prop := gfpolyProductRuleUptoRow.holds Try.pinned (OpenSpec.upto gfpolyProductRuleSpec)

/-- 'stelelaw06.GfpolyInterpolates', WHERE WHAT IT READS IS OF BULK AT MOST 1048576: true; the input reads as it did. -/
def gfpolyInterpolatesUptoRow : OpenClaim := { program := "ytdinngcfjjajeaa", sum := "837c14e7a6c8362970f0da9be3f94e208990638df83e599aab573ef74b6d221a", func := "stele/stelelaw06.GfpolyInterpolates", spec := "gfpolyInterpolates", unfollowed := true, recurses := true, apart := false, narrowed := true }
def GfpolyInterpolatesUptoSaid : Prop := gfpolyInterpolatesUptoRow.holds Try.pinned (OpenSpec.upto gfpolyInterpolatesSpec)

/-- 'stelelaw06.GfpolyRoots', WHERE WHAT IT READS IS OF BULK AT MOST 1048576: true; the input reads as it did. -/
def gfpolyRootsUptoRow : OpenClaim := { program := "ytdinngcfjjajeaa", sum := "837c14e7a6c8362970f0da9be3f94e208990638df83e599aab573ef74b6d221a", func := "stele/stelelaw06.GfpolyRoots", spec := "gfpolyRoots", unfollowed := true, recurses := true, apart := false, narrowed := true }
def GfpolyRootsUptoSaid : Prop := gfpolyRootsUptoRow.holds Try.pinned (OpenSpec.upto gfpolyRootsSpec)

end Rows
end Go.Proofs.Ytdinngcfjjajeaa
