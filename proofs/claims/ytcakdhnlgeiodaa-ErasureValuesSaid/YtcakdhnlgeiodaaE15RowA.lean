/- The walk of the law ErasureValues at what the reading says. -/
import Derived.Test.YtcakdhnlgeiodaaE15Law1
namespace Go.Proofs.Ytcakdhnlgeiodaa.E15
open Go.RowKit Mem

theorem row_values (A0 : Option Addr) (n0 c0 : Nat) (l0 : List (List UInt8)) (m1 : Int) (w : World) (h0 : IsStrs w A0 n0 c0 l0) (h1 : (Lit.int .i64 m1).wf = true) : Calls Try.prog 3 #[.slice A0 n0 c0, .int .i64 m1] w fun e w' => e = .returned (.bool true) ∧ Below w.heap.size w w' := by
  exact walk_values A0 n0 c0 l0 m1 w h0 ((Lit.wf_int_iff .i64 _).1 h1)
end Go.Proofs.Ytcakdhnlgeiodaa.E15
