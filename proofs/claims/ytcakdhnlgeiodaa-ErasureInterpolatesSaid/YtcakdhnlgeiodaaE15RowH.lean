/- The walk of the law ErasureInterpolates at what the reading says. -/
import Derived.Test.YtcakdhnlgeiodaaE15Law8
namespace Go.Proofs.Ytcakdhnlgeiodaa.E15
open Go.RowKit Mem

theorem row_interpolates (A0 : Option Addr) (n0 c0 : Nat) (l0 : List (List UInt8)) (m1 : Int) (m2 : Int) (w : World) (h0 : IsStrs w A0 n0 c0 l0) (h1 : (Lit.int .u8 m1).wf = true) (h2 : (Lit.int .u8 m2).wf = true) : Calls Try.prog 10 #[.slice A0 n0 c0, .int .u8 m1, .int .u8 m2] w fun e w' => e = .returned (.bool true) ∧ Below w.heap.size w w' := by
  have g1 := (Lit.wf_int_iff .u8 _).1 h1
  obtain ⟨k1, rfl⟩ := Int.eq_ofNat_of_zero_le g1.1
  have e1 : (k1 : Int) ≤ 255 := g1.2
  have g2 := (Lit.wf_int_iff .u8 _).1 h2
  obtain ⟨k2, rfl⟩ := Int.eq_ofNat_of_zero_le g2.1
  have e2 : (k2 : Int) ≤ 255 := g2.2
  exact walk_interpolates A0 n0 c0 l0 k1 k2 w h0 (by omega) (by omega)
end Go.Proofs.Ytcakdhnlgeiodaa.E15
