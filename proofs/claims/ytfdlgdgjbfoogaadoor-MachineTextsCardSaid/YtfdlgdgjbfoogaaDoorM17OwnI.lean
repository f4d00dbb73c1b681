/- The contract of the landed Run of layer 17. -/
import Derived.Test.YtfdlgdgjbfoogaaDoorM17OwnC
import Derived.Test.YtfdlgdgjbfoogaaDoorM17OwnH
namespace Go.Proofs.YtfdlgdgjbfoogaaDoor.M17
set_option maxRecDepth 100000
open Go.RowKit Mem

/-- Run does what the plain machine does, and leaves what lay there. -/
theorem Run_own {A IA : Option Addr} {n c m ic : Nat} {ts : List Txt} {inp : List Nat} {w : World} (h : IsTxts w A n c ts) (hI : IsInp w IA m ic inp) (start steps : Int) :
    Calls Tryd.prog 12 #[.slice A n c, .int .i64 start, .slice IA m ic, .int .i64 steps] w fun e w' => e = .returned (outV (ans ts start inp steps)) ∧ Below w.heap.size w w' := Run_any (fun _ _ _ _ _ _ h hol => step_own h hol) h hI start steps
end Go.Proofs.YtfdlgdgjbfoogaaDoor.M17
