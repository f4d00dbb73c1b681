/- The landed package's contracts, as the laws' walks take them. -/
import Derived.Test.YtkppepdniehoiaaDoorB4Own11
namespace Go.Proofs.YtkppepdniehoiaaDoor.B4
open Go.RowKit Mem
theorem dev : Dev Laid where
  keep := fun h k => h.below k
  sum := fun A cap l w ht hll hlc hcap hRd hL => osum_any A cap l w ht hll hlc hcap hRd hL
  compress := fun h block count last w hh hs hc hL => ocompressX h block count last w hh hs hc hL
  hex := fun s w hs _ => ohex_any s w hs
  merkle := fun A cap l w ht hll hlc hcap hRd hL => omerkle_any A cap l w ht hll hlc hcap hRd hL
end Go.Proofs.YtkppepdniehoiaaDoor.B4
