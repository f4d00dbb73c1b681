/- The landed package keeps the contracts that the laws of layer 9 take. -/
import Derived.Test.YthbhjbbgghpiaaaC9Dev
import Derived.Test.YthbhjbbgghpiaaaC9Own4
namespace Go.Proofs.Ythbhjbbgghpiaaa.C9
open Go.RowKit Mem
theorem dev : Dev where
  next := fun s b w h0 h1 h2 h3 => next_own s b w h0 h1 h2 h3
  encode := fun s w h => encode_own s w h
  extract := fun c w h => extract_own c w (by omega)
  weight := fun s w h => weight_own s w (by omega)
end Go.Proofs.Ythbhjbbgghpiaaa.C9
