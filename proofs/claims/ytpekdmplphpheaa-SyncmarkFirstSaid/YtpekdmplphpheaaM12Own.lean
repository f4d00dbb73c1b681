/- The landed package keeps what the laws take of it. -/
import Derived.Test.YtpekdmplphpheaaM12Dev
import Derived.Test.YtpekdmplphpheaaM12Own3
namespace Go.Proofs.Ytpekdmplphpheaa.M12
open Go.RowKit Mem

theorem dev : Dev where
  mark := mark_any
  plain := plain_any
  dist := fun c a w h a1 a2 => distance_any c a w (by omega) a1 a2
  isp := fun c a w h a1 a2 => isplain_any c a w (by omega) a1 a2
  find := find_any
end Go.Proofs.Ytpekdmplphpheaa.M12
