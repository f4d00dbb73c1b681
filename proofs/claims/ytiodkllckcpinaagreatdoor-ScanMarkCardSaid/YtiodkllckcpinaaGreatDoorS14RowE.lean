/- The walk of the law ScanMark at what the reading says. -/
import Derived.Test.YtiodkllckcpinaaGreatDoorS14Law7
set_option linter.unusedVariables false
set_option linter.unusedSimpArgs false
set_option maxRecDepth 100000
namespace Go.Proofs.YtiodkllckcpinaaGreatDoor
namespace S14
open Go.RowKit Mem F13

theorem row_mark (f : Fr) (A : Option Addr) (n cap : Nat) (zs : List Int) (w : World) (hf : FitB f) (hz : IsRow .u8 w A n cap zs) : Calls Tryz.prog 10 #[f.val, .slice A n cap] w fun e w' => e = .returned (.bool true) ∧ Below w.heap.size w w' := by
 obtain ⟨l, hl⟩ := IsBy.of_row hz
 exact walk_mark f A n cap l w hf hl
end S14
end Go.Proofs.YtiodkllckcpinaaGreatDoor
