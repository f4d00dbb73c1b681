/- The landed package's contracts, together. -/
import Derived.Test.YtdinngcfjjajeaaG6Own2
import Derived.Test.YtdinngcfjjajeaaG6Own3
import Derived.Test.YtdinngcfjjajeaaG6Own4
import Derived.Test.YtdinngcfjjajeaaG6Own6
import Derived.Test.YtdinngcfjjajeaaG6Own7
namespace Go.Proofs.Ytdinngcfjjajeaa.G6
open Go.Proofs.Ytdinngcfjjajeaa.G5
open Go.RowKit Mem

theorem dev : Dev where
  gadd := add_own
  gmul := mul_own
  trim h hl := trim_own h (by omega)
  add h h' hp hq := addP_own h h' (by omega) (by omega)
  mul h h' hl := mulP_own h h' (by omega)
  div0 h h' hp hq h0 := div0_own h' (by omega) h0
  div1 h h' hp hq h0 := div1_own h h' (by omega) (by omega) h0
  eval x h hl := eval_own x h (by omega)
  der h hl := der_own h (by omega)
  itp1 h h' hx hy hne := it1_own hne
  itp2 h h' hx hy he hn := it2_own h h' hx he hn
  itp3 h h' hx hy he hn := it3_own h h' hx he hn
end Go.Proofs.Ytdinngcfjjajeaa.G6
