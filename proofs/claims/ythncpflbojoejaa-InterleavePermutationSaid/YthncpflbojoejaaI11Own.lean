/- The landed package's contracts as the laws take them. -/
import Derived.Test.YthncpflbojoejaaI11Own2
import Derived.Test.YthncpflbojoejaaI11Dev
namespace Go.Proofs.Ythncpflbojoejaa.I11
/-- The package's functions as the laws take them. -/
theorem dev : Dev := ⟨fun c r w h h1 h2 => il_own c r w (by omega) h1 h2, fun c r w h h1 h2 => dl_own c r w (by omega) h1 h2, index_own⟩
end Go.Proofs.Ythncpflbojoejaa.I11
