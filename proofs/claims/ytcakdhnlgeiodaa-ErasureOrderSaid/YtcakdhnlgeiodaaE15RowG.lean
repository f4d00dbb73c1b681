/- The walk of the law ErasureOrder at what the reading says. -/
import Derived.Test.YtcakdhnlgeiodaaE15Law7
namespace Go.Proofs.Ytcakdhnlgeiodaa.E15
open Go.RowKit Mem

theorem row_order (A0 : Option Addr) (n0 c0 : Nat) (l0 : List (List UInt8)) (m1 : Int) (m2 : Int) (m3 : Int) (w : World) (h0 : IsStrs w A0 n0 c0 l0) (h1 : (Lit.int .u8 m1).wf = true) (h2 : (Lit.int .u16 m2).wf = true) (h3 : (Lit.int .u8 m3).wf = true) : Calls Try.prog 9 #[.slice A0 n0 c0, .int .u8 m1, .int .u16 m2, .int .u8 m3] w fun e w' => e = .returned (.bool true) ∧ Below w.heap.size w w' := by
  have g1 := (Lit.wf_int_iff .u8 _).1 h1
  obtain ⟨k1, rfl⟩ := Int.eq_ofNat_of_zero_le g1.1
  have e1 : (k1 : Int) ≤ 255 := g1.2
  have g2 := (Lit.wf_int_iff .u16 _).1 h2
  obtain ⟨k2, rfl⟩ := Int.eq_ofNat_of_zero_le g2.1
  have e2 : (k2 : Int) ≤ 65535 := g2.2
  have g3 := (Lit.wf_int_iff .u8 _).1 h3
  obtain ⟨k3, rfl⟩ := Int.eq_ofNat_of_zero_le g3.1
  have e3 : (k3 : Int) ≤ 255 := g3.2
  exact walk_order A0 n0 c0 l0 k1 k2 k3 w h0 (by omega) (by omega) (by omega)
end Go.Proofs.Ytcakdhnlgeiodaa.E15
