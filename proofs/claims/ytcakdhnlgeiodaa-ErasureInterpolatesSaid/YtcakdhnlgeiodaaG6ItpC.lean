/- What Interpolate hands back. No function is named here. -/
import Derived.Test.YtcakdhnlgeiodaaG6Sl
namespace Go.Proofs.Ytcakdhnlgeiodaa.G6
open Go.Proofs.Ytcakdhnlgeiodaa.G5
open Go.RowKit Mem
set_option linter.unusedVariables false
set_option linter.unusedSimpArgs false

/-- Interpolate's answer without a polynomial. -/
def ItpNo (k : Int) (w : World) (e : Ending) (w' : World) : Prop := ∃ A c, e = .returned (.tuple #[.slice A 0 c, .int .i64 k]) ∧ IsSl w' A c [] ∧ Below w.heap.size w w'
def ItpYes (xl yl : List R) (w : World) (e : Ending) (w' : World) : Prop := ∃ (l : List R) (A : Option Addr) (c : Nat), Itp xl yl l ∧ e = .returned (.tuple #[.slice A l.length c, .int .i64 0]) ∧ IsSl w' A c l ∧ Below w.heap.size w w'

end Go.Proofs.Ytcakdhnlgeiodaa.G6
