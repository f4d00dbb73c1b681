/- The laws' walks of layer 14 at what the reading says. -/
import Derived.Test.YtiodkllckcpinaaGreatDoorS14Law3
set_option linter.unusedVariables false
set_option linter.unusedSimpArgs false
set_option maxRecDepth 100000
namespace Go.Proofs.YtiodkllckcpinaaGreatDoor
namespace S14
open Go.RowKit Mem F13

theorem row_torn (f : Fr) (m : Int) (w : World) (h : FitB f) (hm : (Lit.int .u8 m).wf = true) : Calls Tryz.prog 8 #[f.val, .int .u8 m] w fun e w' => e = .returned (.bool true) ∧ Below w.heap.size w w' := by
 have h1 := (Lit.wf_int_iff .u8 _).1 hm
 obtain ⟨n, rfl⟩ := Int.eq_ofNat_of_zero_le h1.1
 exact walk_torn f n w h (by have h2 : (n : Int) ≤ 255 := h1.2; omega)
end S14
end Go.Proofs.YtiodkllckcpinaaGreatDoor
