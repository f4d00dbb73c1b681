/- The landed package keeps the contracts. -/
import Derived.Test.YtffnjnomckipbaaG5Own2
import Derived.Test.YtffnjnomckipbaaG5Dev
namespace Go.Proofs.Ytffnjnomckipbaa.G5
theorem dev : Dev := ⟨add_own, mul_own, inv_own, div_own, fun n w h1 h2 => exp_own n w h1 h2, log_own, fun a n w h1 h2 => pow_own a n w h1 h2⟩
end Go.Proofs.Ytffnjnomckipbaa.G5
