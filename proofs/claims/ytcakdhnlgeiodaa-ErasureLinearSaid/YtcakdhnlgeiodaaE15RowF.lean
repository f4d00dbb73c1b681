/- The walk of the law ErasureLinear at what the reading says. -/
import Derived.Test.YtcakdhnlgeiodaaE15Law6
namespace Go.Proofs.Ytcakdhnlgeiodaa.E15
open Go.RowKit Mem

theorem row_linear (A0 : Option Addr) (n0 c0 : Nat) (l0 : List (List UInt8)) (A1 : Option Addr) (n1 c1 : Nat) (l1 : List (List UInt8)) (m2 : Int) (w : World) (h0 : IsStrs w A0 n0 c0 l0) (h1 : IsStrs w A1 n1 c1 l1) (h2 : (Lit.int .u8 m2).wf = true) : Calls Try.prog 8 #[.slice A0 n0 c0, .slice A1 n1 c1, .int .u8 m2] w fun e w' => e = .returned (.bool true) ∧ Below w.heap.size w w' := by
  have g2 := (Lit.wf_int_iff .u8 _).1 h2
  obtain ⟨k2, rfl⟩ := Int.eq_ofNat_of_zero_le g2.1
  have e2 : (k2 : Int) ≤ 255 := g2.2
  exact walk_linear A0 n0 c0 l0 A1 n1 c1 l1 k2 w h0 h1 (by omega)
end Go.Proofs.Ytcakdhnlgeiodaa.E15
