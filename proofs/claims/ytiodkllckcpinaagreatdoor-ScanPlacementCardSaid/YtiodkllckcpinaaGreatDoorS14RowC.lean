/- The walk of the law ScanPlacement at what the reading says. -/
import Derived.Test.YtiodkllckcpinaaGreatDoorS14Law5
set_option linter.unusedVariables false
set_option linter.unusedSimpArgs false
set_option maxRecDepth 100000
namespace Go.Proofs.YtiodkllckcpinaaGreatDoor
namespace S14
open Go.RowKit Mem F13

theorem row_placement (A : Option Addr) (n cap : Nat) (ps : List Pt) (w : World) (hps : IsParts w A n cap ps) (hn : n * 48 ≤ 140737488355328) : Calls Tryz.prog 9 #[.slice A n cap] w fun e w' => e = .returned (.bool true) ∧ Below w.heap.size w w' :=
 walk_placement A n cap ps w hps hn
end S14
end Go.Proofs.YtiodkllckcpinaaGreatDoor
