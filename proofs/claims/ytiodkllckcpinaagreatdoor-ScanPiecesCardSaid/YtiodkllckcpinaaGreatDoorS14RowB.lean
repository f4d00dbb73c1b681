/- The walk of the law ScanPieces at what the reading says. -/
import Derived.Test.YtiodkllckcpinaaGreatDoorS14Law4
set_option linter.unusedVariables false
set_option linter.unusedSimpArgs false
set_option maxRecDepth 100000
namespace Go.Proofs.YtiodkllckcpinaaGreatDoor
namespace S14
open Go.RowKit Mem F13

theorem row_pieces (A : Option Addr) (n cap : Nat) (ps : List Pt) (m : Int) (w : World) (hps : IsParts w A n cap ps) (hn : n * 48 ≤ 140737488355328) (hm : (Lit.int .u16 m).wf = true) : Calls Tryz.prog 3 #[.slice A n cap, .int .u16 m] w fun e w' => e = .returned (.bool true) ∧ Below w.heap.size w w' := by
 have h1 := (Lit.wf_int_iff .u16 _).1 hm
 obtain ⟨k, rfl⟩ := Int.eq_ofNat_of_zero_le h1.1
 exact walk_pieces A n cap ps k w hps hn (by have h2 : (k : Int) ≤ 65535 := h1.2; omega)
end S14
end Go.Proofs.YtiodkllckcpinaaGreatDoor
