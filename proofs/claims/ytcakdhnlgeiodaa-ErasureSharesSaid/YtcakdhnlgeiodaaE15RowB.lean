/- The walk of the law ErasureShares at what the reading says. -/
import Derived.Test.YtcakdhnlgeiodaaE15Law2
namespace Go.Proofs.Ytcakdhnlgeiodaa.E15
open Go.RowKit Mem

theorem row_shares (A0 : Option Addr) (n0 c0 : Nat) (l0 : List Rw) (m1 : Int) (m2 : Int) (w : World) (h0 : IsShares w A0 n0 c0 l0) (h1 : (Lit.int .i64 m1).wf = true) (h2 : (Lit.int .i64 m2).wf = true) : Calls Try.prog 4 #[.slice A0 n0 c0, .int .i64 m1, .int .i64 m2] w fun e w' => e = .returned (.bool true) ∧ Below w.heap.size w w' := by
  exact walk_shares A0 n0 c0 l0 m1 m2 w h0 ((Lit.wf_int_iff .i64 _).1 h1) ((Lit.wf_int_iff .i64 _).1 h2)
end Go.Proofs.Ytcakdhnlgeiodaa.E15
