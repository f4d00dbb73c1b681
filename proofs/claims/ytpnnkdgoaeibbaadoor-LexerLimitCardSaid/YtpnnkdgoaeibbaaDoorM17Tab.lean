/- The table of powers of ten in a world. No walk here. -/
import Derived.Test.YtpnnkdgoaeibbaaDoorRows
import Derived.Test.YtpnnkdgoaeibbaaDoorMem
import Derived.Test.YtpnnkdgoaeibbaaDoorLift
import Derived.Lib.AppendIntMem
import Derived.Lib.ItoaMem
import Derived.Lib.LaidTab
import Derived.Stop.LaidErr
import Derived.WalkKit
import Derived.WalkSmall
import Derived.Below
namespace Go.Proofs.YtpnnkdgoaeibbaaDoor.M17
set_option maxRecDepth 100000
open Go.RowKit Mem
set_option linter.unusedVariables false
set_option linter.unusedSimpArgs false

/-- The table of powers of ten is in the world. -/
def Laid (w : World) : Prop := Lib.TabIs Tryd.prog w "internal/strconv.uint64pow10" .u64 Lib.pow10Tab
theorem gPow : Tryd.prog.globalNamed "internal/strconv.uint64pow10" = some 3 := by kernel_rfl
theorem Laid.below {w w' : World} (h : Laid w) (k : Below w.heap.size w w') : Laid w' := by
  unfold Laid Lib.TabIs at h ⊢
  have hlt : 3 < w.heap.size := World.block_lt_of_cell? _ _ (World.var?_cell gPow h 0)
  exact var?_below k gPow hlt h
theorem tPow : (Tryd.prog.globals[3]?).map (·.type) = some 79 := by kernel_rfl
theorem cPow : Tryd.prog.cellsOf 79 = 20 := by kernel_rfl
theorem cU64 : Tryd.prog.cellsOf 39 = 1 := by kernel_rfl
end Go.Proofs.YtpnnkdgoaeibbaaDoor.M17
