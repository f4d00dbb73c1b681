/- From what a row lists to what the walks take of the variables. -/
import Derived.Test.YtjmnjcjpcmonjaaDoorN2Own3
import Derived.Test.YtjmnjcjpcmonjaaDoorLift
import Derived.Lib.LaidTab
import Derived.Stop.LaidErr
namespace Go.Proofs.YtjmnjcjpcmonjaaDoor.N2
open Go.RowKit Mem

theorem tPow : (Tryd.prog.globals[2]?).map (·.type) = some 89 := by kernel_rfl
theorem cPow : Tryd.prog.cellsOf 89 = 20 := by kernel_rfl
theorem cU64 : Tryd.prog.cellsOf 61 = 1 := by kernel_rfl
theorem tRange : (Tryd.prog.globals[1]?).map (·.type) = some 50 := by kernel_rfl
theorem cErr : Tryd.prog.cellsOf 96 = 1 := by kernel_rfl
theorem cStr : Tryd.prog.cellsOf 9 = 1 := by kernel_rfl
theorem star : "*" ++ "errors.errorString" = "*errors.errorString" := by decide
theorem oneRow (u : TypeId) (h : Tryd.prog.typeName? 3 u = some "*errors.errorString") : u = 94 :=
  typeName_ptr_named (nm := "errors.errorString") (by rw [star]; kernel_rfl) (by kernel_rfl) (by decide) u (by rw [star]; exact h)

theorem laid_of {W : World} (h : laidMetH Tryd.prog Rows.netstringReadingRow.laid W) : Laid W := by
  rw [MakeChecks.laidMetH_plain _ _ _ (by kernel_rfl)] at h
  have h3 : laidMet Tryd.prog (("internal/strconv.uint64pow10", Lib.tabData .u64 Lib.pow10Tab) :: [("strconv.ErrRange", Rows.laid_strconv_ErrRange), ("strconv.ErrSyntax", Rows.laid_strconv_ErrSyntax)]) W := h.tail.tail
  refine ⟨Lib.tabIs_of_head gPow tPow Tryd.underlying89 Tryd.underlying61 cU64 cPow h3, ?_⟩
  obtain ⟨a, s, hv, _⟩ := laid_sentinel h3.tail gRange tRange Tryd.underlying50 oneRow Tryd.underlying94 Tryd.underlying96 rfl rfl Tryd.underlying9 cErr cStr
  exact ⟨_, _, hv⟩
end Go.Proofs.YtjmnjcjpcmonjaaDoor.N2
