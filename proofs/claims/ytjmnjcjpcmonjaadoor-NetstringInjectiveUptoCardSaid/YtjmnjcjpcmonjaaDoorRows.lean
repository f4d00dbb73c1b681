/-
  NARROWER THAN 'FOR EVERY INPUT', by the rows' own cells (each row's printed sentence says how): NetstringEncoding: laid · NetstringReading: laid · NetstringList: laid · NetstringNumberRoundTrip: laid · NetstringStringRoundTrip: laid · NetstringInjective: laid · NetstringPrefix: laid · NetstringConcatenation: laid · NetstringNesting: laid.
  DERIVED. THE GIVEN ROWS OF THIS SEAT. 9 by the template 'for every input the law returns true; each argument reads behind the call as it read before'; 0 by the template 'total and deterministic' (their statements: YtjmnjcjpcmonjaaDoorTotals.lean).
  GIVEN WITH THE SEED: the statements are not yours to turn. If you find one false, say at which input.
  Laid BY PROGRAM, IN A SANDBOX (cutbox-rows.mjs): the forced cells as the released guide's own fill.sh prints them over the translation 8755e5f1941185c3… (all of the seat's roots in one cut). By AI agents, Wed Nov 11 2026. No macro, syntax, notation, axiom, sorry.
-/
import Derived.Test.YtjmnjcjpcmonjaaDoorChecked
import GoSem.Claim
import GoSem.ClaimJoined
import GoSem.ClaimMapViews
import Derived.JoinedTies
import Derived.KernelRfl
namespace Go.Proofs.YtjmnjcjpcmonjaaDoor
/- THE CELL 'sum', in the pinned program and in every row, IS THE sha256 OF THE DUMP (.gsa) THAT YtjmnjcjpcmonjaaDoorProg.lean LOADS. Nothing in Lean hashes anything: it is a label: what it is worth is what the hold of that sum in a sandbox is worth. -/
noncomputable def Tryd.pinned : Pinned := { name := "ytjmnjcjpcmonjaadoor", sum := "8755e5f1941185c397b6bbed7031f64d6ad3277f173a55288436786321a30c38", checked := Tryd.checked }
namespace Rows
def none {H : Type} : Left H := { results := [], args := [] }

/- WHAT THE LISTED PACKAGE-LEVEL VARIABLES READ AS WHEN THE CALL BEGINS. Each datum BY PROGRAM (the guide's laid-datum.mjs) off the statement by which the dump's own 'gosem.cut.vars' lays the variable. In a bare row this is a premise. The card (YtjmnjcjpcmonjaaDoorCards.lean) ties it to the program's text. -/
def laid_math_bits_deBruijn32tab {H : Type} : DataW H := .agg [.lit (.int .u8 0), .lit (.int .u8 1), .lit (.int .u8 28), .lit (.int .u8 2), .lit (.int .u8 29), .lit (.int .u8 14), .lit (.int .u8 24), .lit (.int .u8 3), .lit (.int .u8 30), .lit (.int .u8 22), .lit (.int .u8 20), .lit (.int .u8 15), .lit (.int .u8 25), .lit (.int .u8 17), .lit (.int .u8 4), .lit (.int .u8 8), .lit (.int .u8 31), .lit (.int .u8 27), .lit (.int .u8 13), .lit (.int .u8 23), .lit (.int .u8 21), .lit (.int .u8 19), .lit (.int .u8 16), .lit (.int .u8 7), .lit (.int .u8 26), .lit (.int .u8 12), .lit (.int .u8 18), .lit (.int .u8 6), .lit (.int .u8 11), .lit (.int .u8 5), .lit (.int .u8 10), .lit (.int .u8 9)]
def laid_math_bits_deBruijn64tab {H : Type} : DataW H := .agg [.lit (.int .u8 0), .lit (.int .u8 1), .lit (.int .u8 56), .lit (.int .u8 2), .lit (.int .u8 57), .lit (.int .u8 49), .lit (.int .u8 28), .lit (.int .u8 3), .lit (.int .u8 61), .lit (.int .u8 58), .lit (.int .u8 42), .lit (.int .u8 50), .lit (.int .u8 38), .lit (.int .u8 29), .lit (.int .u8 17), .lit (.int .u8 4), .lit (.int .u8 62), .lit (.int .u8 47), .lit (.int .u8 59), .lit (.int .u8 36), .lit (.int .u8 45), .lit (.int .u8 43), .lit (.int .u8 51), .lit (.int .u8 22), .lit (.int .u8 53), .lit (.int .u8 39), .lit (.int .u8 33), .lit (.int .u8 30), .lit (.int .u8 24), .lit (.int .u8 18), .lit (.int .u8 12), .lit (.int .u8 5), .lit (.int .u8 63), .lit (.int .u8 55), .lit (.int .u8 48), .lit (.int .u8 27), .lit (.int .u8 60), .lit (.int .u8 41), .lit (.int .u8 37), .lit (.int .u8 16), .lit (.int .u8 46), .lit (.int .u8 35), .lit (.int .u8 44), .lit (.int .u8 21), .lit (.int .u8 52), .lit (.int .u8 32), .lit (.int .u8 23), .lit (.int .u8 11), .lit (.int .u8 54), .lit (.int .u8 26), .lit (.int .u8 40), .lit (.int .u8 15), .lit (.int .u8 34), .lit (.int .u8 20), .lit (.int .u8 31), .lit (.int .u8 10), .lit (.int .u8 25), .lit (.int .u8 14), .lit (.int .u8 19), .lit (.int .u8 9), .lit (.int .u8 13), .lit (.int .u8 8), .lit (.int .u8 7), .lit (.int .u8 6)]
def laid_internal_strconv_uint64pow10 {H : Type} : DataW H := .agg [.lit (.int .u64 1), .lit (.int .u64 10), .lit (.int .u64 100), .lit (.int .u64 1000), .lit (.int .u64 10000), .lit (.int .u64 100000), .lit (.int .u64 1000000), .lit (.int .u64 10000000), .lit (.int .u64 100000000), .lit (.int .u64 1000000000), .lit (.int .u64 10000000000), .lit (.int .u64 100000000000), .lit (.int .u64 1000000000000), .lit (.int .u64 10000000000000), .lit (.int .u64 100000000000000), .lit (.int .u64 1000000000000000), .lit (.int .u64 10000000000000000), .lit (.int .u64 100000000000000000), .lit (.int .u64 1000000000000000000), .lit (.int .u64 10000000000000000000)]
def laid_strconv_ErrRange {H : Type} : DataW H := .iface "*errors.errorString" (.ptr (.agg [.lit (.string [118, 97, 108, 117, 101, 32, 111, 117, 116, 32, 111, 102, 32, 114, 97, 110, 103, 101])]))
def laid_strconv_ErrSyntax {H : Type} : DataW H := .iface "*errors.errorString" (.ptr (.agg [.lit (.string [105, 110, 118, 97, 108, 105, 100, 32, 115, 121, 110, 116, 97, 120])]))

/-- 'stelelaw02.NetstringEncoding': WHATEVER THE INPUT: true; the input reads as it did. -/
def netstringEncodingSpec : ChangeSpec := { name := "netstringEncoding", fn := fun _ => fun
  | [d1, d2] => { results := [.lit (.bool true)], args := [d1, d2] }
  | _ => none }
def netstringEncodingRow : OpenClaim := { program := "ytjmnjcjpcmonjaadoor", sum := "8755e5f1941185c397b6bbed7031f64d6ad3277f173a55288436786321a30c38", func := "stele/stelelaw02.NetstringEncoding", spec := "netstringEncoding", inPlace := ["internal/bytealg.IndexByteString", "internal/abi.NoEscape"], recurses := true, named := ["strconv.ErrSyntax", "strconv.ErrRange", "internal/strconv.uint64pow10", "math/bits.deBruijn32tab", "math/bits.deBruijn64tab"], apart := false, laid := [("math/bits.deBruijn32tab", laid_math_bits_deBruijn32tab), ("math/bits.deBruijn64tab", laid_math_bits_deBruijn64tab), ("internal/strconv.uint64pow10", laid_internal_strconv_uint64pow10), ("strconv.ErrRange", laid_strconv_ErrRange), ("strconv.ErrSyntax", laid_strconv_ErrSyntax)] }
def NetstringEncodingSaid : Prop := netstringEncodingRow.holds Tryd.pinned (OpenSpec.ofChange netstringEncodingSpec)

/-- ITS FALSE NEIGHBOUR: 'it returns false'. Refute it at one input. -/
def netstringEncodingWrong : ChangeSpec := { name := "netstringEncoding", fn := fun _ => fun
  | [d1, d2] => { results := [.lit (.bool false)], args := [d1, d2] }
  | _ => none }
def NetstringEncodingWrongFalsely : Prop := netstringEncodingRow.holds Tryd.pinned (OpenSpec.ofChange netstringEncodingWrong)

/-- 'stelelaw02.NetstringReading': WHATEVER THE INPUT: true; the input reads as it did. -/
def netstringReadingSpec : ChangeSpec := { name := "netstringReading", fn := fun _ => fun
  | [d1, d2] => { results := [.lit (.bool true)], args := [d1, d2] }
  | _ => none }
def netstringReadingRow : OpenClaim := { program := "ytjmnjcjpcmonjaadoor", sum := "8755e5f1941185c397b6bbed7031f64d6ad3277f173a55288436786321a30c38", func := "stele/stelelaw02.NetstringReading", spec := "netstringReading", inPlace := ["internal/bytealg.IndexByteString"], named := ["strconv.ErrSyntax", "strconv.ErrRange", "internal/strconv.uint64pow10", "math/bits.deBruijn32tab", "math/bits.deBruijn64tab"], apart := false, laid := [("math/bits.deBruijn32tab", laid_math_bits_deBruijn32tab), ("math/bits.deBruijn64tab", laid_math_bits_deBruijn64tab), ("internal/strconv.uint64pow10", laid_internal_strconv_uint64pow10), ("strconv.ErrRange", laid_strconv_ErrRange), ("strconv.ErrSyntax", laid_strconv_ErrSyntax)] }
def NetstringReadingSaid : Prop := netstringReadingRow.holds Tryd.pinned (OpenSpec.ofChange netstringReadingSpec)

/-- ITS FALSE NEIGHBOUR: 'it returns false'. Refute it at one input. -/
def netstringReadingWrong : ChangeSpec := { name := "netstringReading", fn := fun _ => fun
  | [d1, d2] => { results := [.lit (.bool false)], args := [d1, d2] }
  | _ => none }
def NetstringReadingWrongFalsely : Prop := netstringReadingRow.holds Tryd.pinned (OpenSpec.ofChange netstringReadingWrong)

/-- 'stelelaw02.NetstringList': WHATEVER THE INPUT: true; the input reads as it did. -/
def netstringListSpec : ChangeSpec := { name := "netstringList", fn := fun _ => fun
  | [d] => { results := [.lit (.bool true)], args := [d] }
  | _ => none }
def netstringListRow : OpenClaim := { program := "ytjmnjcjpcmonjaadoor", sum := "8755e5f1941185c397b6bbed7031f64d6ad3277f173a55288436786321a30c38", func := "stele/stelelaw02.NetstringList", spec := "netstringList", inPlace := ["internal/bytealg.IndexByteString"], named := ["strconv.ErrSyntax", "strconv.ErrRange", "internal/strconv.uint64pow10", "math/bits.deBruijn32tab", "math/bits.deBruijn64tab"], apart := false, laid := [("math/bits.deBruijn32tab", laid_math_bits_deBruijn32tab), ("math/bits.deBruijn64tab", laid_math_bits_deBruijn64tab), ("internal/strconv.uint64pow10", laid_internal_strconv_uint64pow10), ("strconv.ErrRange", laid_strconv_ErrRange), ("strconv.ErrSyntax", laid_strconv_ErrSyntax)] }
def NetstringListSaid : Prop := netstringListRow.holds Tryd.pinned (OpenSpec.ofChange netstringListSpec)

/-- ITS FALSE NEIGHBOUR: 'it returns false'. Refute it at one input. -/
def netstringListWrong : ChangeSpec := { name := "netstringList", fn := fun _ => fun
  | [d] => { results := [.lit (.bool false)], args := [d] }
  | _ => none }
def NetstringListWrongFalsely : Prop := netstringListRow.holds Tryd.pinned (OpenSpec.ofChange netstringListWrong)

/-- 'stelelaw02.NetstringNumberRoundTrip': WHATEVER THE INPUT: true; the input reads as it did. -/
def netstringNumberRoundTripSpec : ChangeSpec := { name := "netstringNumberRoundTrip", fn := fun _ => fun
  | [d1, d2, d3] => { results := [.lit (.bool true)], args := [d1, d2, d3] }
  | _ => none }
def netstringNumberRoundTripRow : OpenClaim := { program := "ytjmnjcjpcmonjaadoor", sum := "8755e5f1941185c397b6bbed7031f64d6ad3277f173a55288436786321a30c38", func := "stele/stelelaw02.NetstringNumberRoundTrip", spec := "netstringNumberRoundTrip", inPlace := ["internal/bytealg.IndexByteString"], named := ["strconv.ErrSyntax", "strconv.ErrRange", "internal/strconv.uint64pow10", "math/bits.deBruijn32tab", "math/bits.deBruijn64tab"], apart := false, laid := [("math/bits.deBruijn32tab", laid_math_bits_deBruijn32tab), ("math/bits.deBruijn64tab", laid_math_bits_deBruijn64tab), ("internal/strconv.uint64pow10", laid_internal_strconv_uint64pow10), ("strconv.ErrRange", laid_strconv_ErrRange), ("strconv.ErrSyntax", laid_strconv_ErrSyntax)] }
def NetstringNumberRoundTripSaid : Prop := netstringNumberRoundTripRow.holds Tryd.pinned (OpenSpec.ofChange netstringNumberRoundTripSpec)

/-- ITS FALSE NEIGHBOUR: 'it returns false'. Refute it at one input. -/
def netstringNumberRoundTripWrong : ChangeSpec := { name := "netstringNumberRoundTrip", fn := fun _ => fun
  | [d1, d2, d3] => { results := [.lit (.bool false)], args := [d1, d2, d3] }
  | _ => none }
def NetstringNumberRoundTripWrongFalsely : Prop := netstringNumberRoundTripRow.holds Tryd.pinned (OpenSpec.ofChange netstringNumberRoundTripWrong)

/-- 'stelelaw02.NetstringStringRoundTrip': WHATEVER THE INPUT: true; the input reads as it did. -/
def netstringStringRoundTripSpec : ChangeSpec := { name := "netstringStringRoundTrip", fn := fun _ => fun
  | [d1, d2, d3] => { results := [.lit (.bool true)], args := [d1, d2, d3] }
  | _ => none }
def netstringStringRoundTripRow : OpenClaim := { program := "ytjmnjcjpcmonjaadoor", sum := "8755e5f1941185c397b6bbed7031f64d6ad3277f173a55288436786321a30c38", func := "stele/stelelaw02.NetstringStringRoundTrip", spec := "netstringStringRoundTrip", inPlace := ["internal/bytealg.IndexByteString"], named := ["strconv.ErrSyntax", "strconv.ErrRange", "internal/strconv.uint64pow10", "math/bits.deBruijn32tab", "math/bits.deBruijn64tab"], apart := false, laid := [("math/bits.deBruijn32tab", laid_math_bits_deBruijn32tab), ("math/bits.deBruijn64tab", laid_math_bits_deBruijn64tab), ("internal/strconv.uint64pow10", laid_internal_strconv_uint64pow10), ("strconv.ErrRange", laid_strconv_ErrRange), ("strconv.ErrSyntax", laid_strconv_ErrSyntax)] }
def NetstringStringRoundTripSaid : Prop := netstringStringRoundTripRow.holds Tryd.pinned (OpenSpec.ofChange netstringStringRoundTripSpec)

/-- ITS FALSE NEIGHBOUR: 'it returns false'. Refute it at one input. -/
def netstringStringRoundTripWrong : ChangeSpec := { name := "netstringStringRoundTrip", fn := fun _ => fun
  | [d1, d2, d3] => { results := [.lit (.bool false)], args := [d1, d2, d3] }
  | _ => none }
def NetstringStringRoundTripWrongFalsely : Prop := netstringStringRoundTripRow.holds Tryd.pinned (OpenSpec.ofChange netstringStringRoundTripWrong)

/-- 'stelelaw02.NetstringInjective': WHATEVER THE INPUT: true; the input reads as it did. -/
def netstringInjectiveSpec : ChangeSpec := { name := "netstringInjective", fn := fun _ => fun
  | [d1, d2] => { results := [.lit (.bool true)], args := [d1, d2] }
  | _ => none }
def netstringInjectiveRow : OpenClaim := { program := "ytjmnjcjpcmonjaadoor", sum := "8755e5f1941185c397b6bbed7031f64d6ad3277f173a55288436786321a30c38", func := "stele/stelelaw02.NetstringInjective", spec := "netstringInjective", inPlace := ["internal/bytealg.IndexByteString", "internal/abi.NoEscape"], named := ["strconv.ErrSyntax", "strconv.ErrRange", "internal/strconv.uint64pow10", "math/bits.deBruijn32tab", "math/bits.deBruijn64tab"], apart := false, laid := [("math/bits.deBruijn32tab", laid_math_bits_deBruijn32tab), ("math/bits.deBruijn64tab", laid_math_bits_deBruijn64tab), ("internal/strconv.uint64pow10", laid_internal_strconv_uint64pow10), ("strconv.ErrRange", laid_strconv_ErrRange), ("strconv.ErrSyntax", laid_strconv_ErrSyntax)] }
def NetstringInjectiveSaid : Prop := netstringInjectiveRow.holds Tryd.pinned (OpenSpec.ofChange netstringInjectiveSpec)

/-- ITS FALSE NEIGHBOUR: 'it returns false'. Refute it at one input. -/
def netstringInjectiveWrong : ChangeSpec := { name := "netstringInjective", fn := fun _ => fun
  | [d1, d2] => { results := [.lit (.bool false)], args := [d1, d2] }
  | _ => none }
def NetstringInjectiveWrongFalsely : Prop := netstringInjectiveRow.holds Tryd.pinned (OpenSpec.ofChange netstringInjectiveWrong)

/-- 'stelelaw02.NetstringPrefix': WHATEVER THE INPUT: true; the input reads as it did. -/
def netstringPrefixSpec : ChangeSpec := { name := "netstringPrefix", fn := fun _ => fun
  | [d1, d2] => { results := [.lit (.bool true)], args := [d1, d2] }
  | _ => none }
def netstringPrefixRow : OpenClaim := { program := "ytjmnjcjpcmonjaadoor", sum := "8755e5f1941185c397b6bbed7031f64d6ad3277f173a55288436786321a30c38", func := "stele/stelelaw02.NetstringPrefix", spec := "netstringPrefix", inPlace := ["internal/bytealg.IndexByteString"], named := ["strconv.ErrSyntax", "strconv.ErrRange", "internal/strconv.uint64pow10", "math/bits.deBruijn32tab", "math/bits.deBruijn64tab"], apart := false, laid := [("math/bits.deBruijn32tab", laid_math_bits_deBruijn32tab), ("math/bits.deBruijn64tab", laid_math_bits_deBruijn64tab), ("internal/strconv.uint64pow10", laid_internal_strconv_uint64pow10), ("strconv.ErrRange", laid_strconv_ErrRange), ("strconv.ErrSyntax", laid_strconv_ErrSyntax)] }
def NetstringPrefixSaid : Prop := netstringPrefixRow.holds Tryd.pinned (OpenSpec.ofChange netstringPrefixSpec)

/-- ITS FALSE NEIGHBOUR: 'it returns false'. Refute it at one input. -/
def netstringPrefixWrong : ChangeSpec := { name := "netstringPrefix", fn := fun _ => fun
  | [d1, d2] => { results := [.lit (.bool false)], args := [d1, d2] }
  | _ => none }
def NetstringPrefixWrongFalsely : Prop := netstringPrefixRow.holds Tryd.pinned (OpenSpec.ofChange netstringPrefixWrong)

/-- 'stelelaw02.NetstringConcatenation': WHATEVER THE INPUT: true; the input reads as it did. -/
def netstringConcatenationSpec : ChangeSpec := { name := "netstringConcatenation", fn := fun _ => fun
  | [d1, d2] => { results := [.lit (.bool true)], args := [d1, d2] }
  | _ => none }
def netstringConcatenationRow : OpenClaim := { program := "ytjmnjcjpcmonjaadoor", sum := "8755e5f1941185c397b6bbed7031f64d6ad3277f173a55288436786321a30c38", func := "stele/stelelaw02.NetstringConcatenation", spec := "netstringConcatenation", inPlace := ["internal/bytealg.IndexByteString", "internal/abi.NoEscape"], named := ["strconv.ErrSyntax", "strconv.ErrRange", "internal/strconv.uint64pow10", "math/bits.deBruijn32tab", "math/bits.deBruijn64tab"], apart := false, laid := [("math/bits.deBruijn32tab", laid_math_bits_deBruijn32tab), ("math/bits.deBruijn64tab", laid_math_bits_deBruijn64tab), ("internal/strconv.uint64pow10", laid_internal_strconv_uint64pow10), ("strconv.ErrRange", laid_strconv_ErrRange), ("strconv.ErrSyntax", laid_strconv_ErrSyntax)] }
def NetstringConcatenationSaid : Prop := netstringConcatenationRow.holds Tryd.pinned (OpenSpec.ofChange netstringConcatenationSpec)

/-- ITS FALSE NEIGHBOUR: 'it returns false'. Refute it at one input. -/
def netstringConcatenationWrong : ChangeSpec := { name := "netstringConcatenation", fn := fun _ => fun
  | [d1, d2] => { results := [.lit (.bool false)], args := [d1, d2] }
  | _ => none }
def NetstringConcatenationWrongFalsely : Prop := netstringConcatenationRow.holds Tryd.pinned (OpenSpec.ofChange netstringConcatenationWrong)

/-- 'stelelaw02.NetstringNesting': WHATEVER THE INPUT: true; the input reads as it did. -/
def netstringNestingSpec : ChangeSpec := { name := "netstringNesting", fn := fun _ => fun
  | [d1, d2] => { results := [.lit (.bool true)], args := [d1, d2] }
  | _ => none }
def netstringNestingRow : OpenClaim := { program := "ytjmnjcjpcmonjaadoor", sum := "8755e5f1941185c397b6bbed7031f64d6ad3277f173a55288436786321a30c38", func := "stele/stelelaw02.NetstringNesting", spec := "netstringNesting", inPlace := ["internal/bytealg.IndexByteString"], named := ["strconv.ErrSyntax", "strconv.ErrRange", "internal/strconv.uint64pow10", "math/bits.deBruijn32tab", "math/bits.deBruijn64tab"], apart := false, laid := [("math/bits.deBruijn32tab", laid_math_bits_deBruijn32tab), ("math/bits.deBruijn64tab", laid_math_bits_deBruijn64tab), ("internal/strconv.uint64pow10", laid_internal_strconv_uint64pow10), ("strconv.ErrRange", laid_strconv_ErrRange), ("strconv.ErrSyntax", laid_strconv_ErrSyntax)] }
def NetstringNestingSaid : Prop := netstringNestingRow.holds Tryd.pinned (OpenSpec.ofChange netstringNestingSpec)

/-- ITS FALSE NEIGHBOUR: 'it returns false'. Refute it at one input. -/
def netstringNestingWrong : ChangeSpec := { name := "netstringNesting", fn := fun _ => fun
  | [d1, d2] => { results := [.lit (.bool false)], args := [d1, d2] }
  | _ => none }
def NetstringNestingWrongFalsely : Prop := netstringNestingRow.holds Tryd.pinned (OpenSpec.ofChange netstringNestingWrong)

/- THE SECOND FORM. 'bulk': how many values and letters a reading holds, each counted each time it is reached (what is shared counts as often as it is met; a slice's spare places count too). A statement '..UptoSaid' is the law's where the arguments, and the package variables that the reading takes, are together of bulk at most 1048576: NARROWER than '..Said'. Prove '..Said' where nothing that the law and all that it calls make is longer than what came in: it says more and counts as full. Else prove '..UptoSaid'. A law counts once. -/
mutual
def uptoBulk {H : Type} : DataW H → Nat
  | .lit (.string bytes) => bytes.length + 1
  | .lit _ => 1
  | .nil => 1
  | .ptr d => uptoBulk d + 1
  | .slice elems spare => uptoBulkAll elems + uptoBulkAll spare + 1
  | .agg parts => uptoBulkAll parts + 1
  | .iface _ d => uptoBulk d + 1
  | .map entries => uptoBulkEntries entries + 1
  | .held _ => 1
def uptoBulkAll {H : Type} : List (DataW H) → Nat
  | [] => 0
  | d :: r => uptoBulk d + uptoBulkAll r
def uptoBulkEntries {H : Type} : List (Lit × DataW H) → Nat
  | [] => 0
  | x :: r => uptoBulkEntry x + uptoBulkEntries r
def uptoBulkEntry {H : Type} : Lit × DataW H → Nat
  | (.string bytes, d) => bytes.length + uptoBulk d + 1
  | (_, d) => uptoBulk d + 1
 end
def uptoSmall : (H : Type) → List (DataW H) → Bool := fun _ ds => decide (uptoBulkAll ds ≤ 1048576)
def OpenSpec.upto (s : _root_.Go.ChangeSpec) : _root_.Go.OpenSpec := { _root_.Go.OpenSpec.ofChange s with cond := some uptoSmall }

/-- 'stelelaw02.NetstringEncoding', WHERE WHAT IT READS IS OF BULK AT MOST 1048576: true; the input reads as it did. -/
def netstringEncodingUptoRow : OpenClaim := { program := "ytjmnjcjpcmonjaadoor", sum := "8755e5f1941185c397b6bbed7031f64d6ad3277f173a55288436786321a30c38", func := "stele/stelelaw02.NetstringEncoding", spec := "netstringEncoding", inPlace := ["internal/bytealg.IndexByteString", "internal/abi.NoEscape"], recurses := true, named := ["strconv.ErrSyntax", "strconv.ErrRange", "internal/strconv.uint64pow10", "math/bits.deBruijn32tab", "math/bits.deBruijn64tab"], apart := false, laid := [("math/bits.deBruijn32tab", laid_math_bits_deBruijn32tab), ("math/bits.deBruijn64tab", laid_math_bits_deBruijn64tab), ("internal/strconv.uint64pow10", laid_internal_strconv_uint64pow10), ("strconv.ErrRange", laid_strconv_ErrRange), ("strconv.ErrSyntax", laid_strconv_ErrSyntax)], narrowed := true }
def NetstringEncodingUptoSaid : Prop := netstringEncodingUptoRow.holds Tryd.pinned (OpenSpec.upto netstringEncodingSpec)

/-- 'stelelaw02.NetstringReading', WHERE WHAT IT READS IS OF BULK AT MOST 1048576: true; the input reads as it did. -/
def netstringReadingUptoRow : OpenClaim := { program := "ytjmnjcjpcmonjaadoor", sum := "8755e5f1941185c397b6bbed7031f64d6ad3277f173a55288436786321a30c38", func := "stele/stelelaw02.NetstringReading", spec := "netstringReading", inPlace := ["internal/bytealg.IndexByteString"], named := ["strconv.ErrSyntax", "strconv.ErrRange", "internal/strconv.uint64pow10", "math/bits.deBruijn32tab", "math/bits.deBruijn64tab"], apart := false, laid := [("math/bits.deBruijn32tab", laid_math_bits_deBruijn32tab), ("math/bits.deBruijn64tab", laid_math_bits_deBruijn64tab), ("internal/strconv.uint64pow10", laid_internal_strconv_uint64pow10), ("strconv.ErrRange", laid_strconv_ErrRange), ("strconv.ErrSyntax", laid_strconv_ErrSyntax)], narrowed := true }
def NetstringReadingUptoSaid : Prop := netstringReadingUptoRow.holds Tryd.pinned (OpenSpec.upto netstringReadingSpec)

/-- 'stelelaw02.NetstringList', WHERE WHAT IT READS IS OF BULK AT MOST 1048576: true; the input reads as it did. -/
def netstringListUptoRow : OpenClaim := { program := "ytjmnjcjpcmonjaadoor", sum := "8755e5f1941185c397b6bbed7031f64d6ad3277f173a55288436786321a30c38", func := "stele/stelelaw02.NetstringList", spec := "netstringList", inPlace := ["internal/bytealg.IndexByteString"], named := ["strconv.ErrSyntax", "strconv.ErrRange", "internal/strconv.uint64pow10", "math/bits.deBruijn32tab", "math/bits.deBruijn64tab"], apart := false, laid := [("math/bits.deBruijn32tab", laid_math_bits_deBruijn32tab), ("math/bits.deBruijn64tab", laid_math_bits_deBruijn64tab), ("internal/strconv.uint64pow10", laid_internal_strconv_uint64pow10), ("strconv.ErrRange", laid_strconv_ErrRange), ("strconv.ErrSyntax", laid_strconv_ErrSyntax)], narrowed := true }
def NetstringListUptoSaid : Prop := netstringListUptoRow.holds Tryd.pinned (OpenSpec.upto netstringListSpec)

/-- 'stelelaw02.NetstringNumberRoundTrip', WHERE WHAT IT READS IS OF BULK AT MOST 1048576: true; the input reads as it did. -/
def netstringNumberRoundTripUptoRow : OpenClaim := { program := "ytjmnjcjpcmonjaadoor", sum := "8755e5f1941185c397b6bbed7031f64d6ad3277f173a55288436786321a30c38", func := "stele/stelelaw02.NetstringNumberRoundTrip", spec := "netstringNumberRoundTrip", inPlace := ["internal/bytealg.IndexByteString"], named := ["strconv.ErrSyntax", "strconv.ErrRange", "internal/strconv.uint64pow10", "math/bits.deBruijn32tab", "math/bits.deBruijn64tab"], apart := false, laid := [("math/bits.deBruijn32tab", laid_math_bits_deBruijn32tab), ("math/bits.deBruijn64tab", laid_math_bits_deBruijn64tab), ("internal/strconv.uint64pow10", laid_internal_strconv_uint64pow10), ("strconv.ErrRange", laid_strconv_ErrRange), ("strconv.ErrSyntax", laid_strconv_ErrSyntax)], narrowed := true }
def NetstringNumberRoundTripUptoSaid : Prop := netstringNumberRoundTripUptoRow.holds Tryd.pinned (OpenSpec.upto netstringNumberRoundTripSpec)

/-- 'stelelaw02.NetstringStringRoundTrip', WHERE WHAT IT READS IS OF BULK AT MOST 1048576: true; the input reads as it did. -/
def netstringStringRoundTripUptoRow : OpenClaim := { program := "ytjmnjcjpcmonjaadoor", sum := "8755e5f1941185c397b6bbed7031f64d6ad3277f173a55288436786321a30c38", func := "stele/stelelaw02.NetstringStringRoundTrip", spec := "netstringStringRoundTrip", inPlace := ["internal/bytealg.IndexByteString"], named := ["strconv.ErrSyntax", "strconv.ErrRange", "internal/strconv.uint64pow10", "math/bits.deBruijn32tab", "math/bits.deBruijn64tab"], apart := false, laid := [("math/bits.deBruijn32tab", laid_math_bits_deBruijn32tab), ("math/bits.deBruijn64tab", laid_math_bits_deBruijn64tab), ("internal/strconv.uint64pow10", laid_internal_strconv_uint64pow10), ("strconv.ErrRange", laid_strconv_ErrRange), ("strconv.ErrSyntax", laid_strconv_ErrSyntax)], narrowed := true }
def NetstringStringRoundTripUptoSaid : Prop := netstringStringRoundTripUptoRow.holds Tryd.pinned (OpenSpec.upto netstringStringRoundTripSpec)

/-- 'stelelaw02.NetstringInjective', WHERE WHAT IT READS IS OF BULK AT MOST 1048576: true; the input reads as it did. -/
def netstringInjectiveUptoRow : OpenClaim := { program := "ytjmnjcjpcmonjaadoor", sum := "8755e5f1941185c397b6bbed7031f64d6ad3277f173a55288436786321a30c38", func := "stele/stelelaw02.NetstringInjective", spec := "netstringInjective", inPlace := ["internal/bytealg.IndexByteString", "internal/abi.NoEscape"], named := ["strconv.ErrSyntax", "strconv.ErrRange", "internal/strconv.uint64pow10", "math/bits.deBruijn32tab", "math/bits.deBruijn64tab"], apart := false, laid := [("math/bits.deBruijn32tab", laid_math_bits_deBruijn32tab), ("math/bits.deBruijn64tab", laid_math_bits_deBruijn64tab), ("internal/strconv.uint64pow10", laid_internal_strconv_uint64pow10), ("strconv.ErrRange", laid_strconv_ErrRange), ("strconv.ErrSyntax", laid_strconv_ErrSyntax)], narrowed := true }
def NetstringInjectiveUptoSaid : Prop := netstringInjectiveUptoRow.holds Tryd.pinned (OpenSpec.upto netstringInjectiveSpec)

/-- 'stelelaw02.NetstringPrefix', WHERE WHAT IT READS IS OF BULK AT MOST 1048576: true; the input reads as it did. -/
def netstringPrefixUptoRow : OpenClaim := { program := "ytjmnjcjpcmonjaadoor", sum := "8755e5f1941185c397b6bbed7031f64d6ad3277f173a55288436786321a30c38", func := "stele/stelelaw02.NetstringPrefix", spec := "netstringPrefix", inPlace := ["internal/bytealg.IndexByteString"], named := ["strconv.ErrSyntax", "strconv.ErrRange", "internal/strconv.uint64pow10", "math/bits.deBruijn32tab", "math/bits.deBruijn64tab"], apart := false, laid := [("math/bits.deBruijn32tab", laid_math_bits_deBruijn32tab), ("math/bits.deBruijn64tab", laid_math_bits_deBruijn64tab), ("internal/strconv.uint64pow10", laid_internal_strconv_uint64pow10), ("strconv.ErrRange", laid_strconv_ErrRange), ("strconv.ErrSyntax", laid_strconv_ErrSyntax)], narrowed := true }
def NetstringPrefixUptoSaid : Prop := netstringPrefixUptoRow.holds Tryd.pinned (OpenSpec.upto netstringPrefixSpec)

/-- 'stelelaw02.NetstringConcatenation', WHERE WHAT IT READS IS OF BULK AT MOST 1048576: true; the input reads as it did. -/
def netstringConcatenationUptoRow : OpenClaim := { program := "ytjmnjcjpcmonjaadoor", sum := "8755e5f1941185c397b6bbed7031f64d6ad3277f173a55288436786321a30c38", func := "stele/stelelaw02.NetstringConcatenation", spec := "netstringConcatenation", inPlace := ["internal/bytealg.IndexByteString", "internal/abi.NoEscape"], named := ["strconv.ErrSyntax", "strconv.ErrRange", "internal/strconv.uint64pow10", "math/bits.deBruijn32tab", "math/bits.deBruijn64tab"], apart := false, laid := [("math/bits.deBruijn32tab", laid_math_bits_deBruijn32tab), ("math/bits.deBruijn64tab", laid_math_bits_deBruijn64tab), ("internal/strconv.uint64pow10", laid_internal_strconv_uint64pow10), ("strconv.ErrRange", laid_strconv_ErrRange), ("strconv.ErrSyntax", laid_strconv_ErrSyntax)], narrowed := true }
def NetstringConcatenationUptoSaid : Prop := netstringConcatenationUptoRow.holds Tryd.pinned (OpenSpec.upto netstringConcatenationSpec)

/-- 'stelelaw02.NetstringNesting', WHERE WHAT IT READS IS OF BULK AT MOST 1048576: true; the input reads as it did. -/
def netstringNestingUptoRow : OpenClaim := { program := "ytjmnjcjpcmonjaadoor", sum := "8755e5f1941185c397b6bbed7031f64d6ad3277f173a55288436786321a30c38", func := "stele/stelelaw02.NetstringNesting", spec := "netstringNesting", inPlace := ["internal/bytealg.IndexByteString"], named := ["strconv.ErrSyntax", "strconv.ErrRange", "internal/strconv.uint64pow10", "math/bits.deBruijn32tab", "math/bits.deBruijn64tab"], apart := false, laid := [("math/bits.deBruijn32tab", laid_math_bits_deBruijn32tab), ("math/bits.deBruijn64tab", laid_math_bits_deBruijn64tab), ("internal/strconv.uint64pow10", laid_internal_strconv_uint64pow10), ("strconv.ErrRange", laid_strconv_ErrRange), ("strconv.ErrSyntax", laid_strconv_ErrSyntax)], narrowed := true }
def NetstringNestingUptoSaid : Prop := netstringNestingUptoRow.holds Tryd.pinned (OpenSpec.upto netstringNestingSpec)

end Rows
end Go.Proofs.YtjmnjcjpcmonjaaDoor
