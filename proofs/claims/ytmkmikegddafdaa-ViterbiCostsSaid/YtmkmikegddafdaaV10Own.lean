/- The landed package's contracts as the laws take them. -/
import Derived.Test.YtmkmikegddafdaaV10Own5
import Derived.Test.YtmkmikegddafdaaV10OwnC
namespace Go.Proofs.Ytmkmikegddafdaa.V10
/-- The package's functions as the laws take them. -/
theorem dev : Dev := ⟨fun c w h => decode_own c w (by omega), fun c k w h h1 h2 => costs_own c k w (by omega) h1 h2⟩
end Go.Proofs.Ytmkmikegddafdaa.V10
