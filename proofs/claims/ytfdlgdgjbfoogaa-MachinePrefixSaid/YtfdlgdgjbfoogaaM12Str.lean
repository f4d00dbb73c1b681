/- Strings by their bytes. No program is named here. -/
import Derived.Test.YtfdlgdgjbfoogaaM12Math
namespace Go.Proofs.Ytfdlgdgjbfoogaa.M12
open Go.RowKit Mem
theorem str_eq {a b : ByteArray} (h : a.data.toList = b.data.toList) : a = b := ByteArray.ext (Array.toList_inj.1 h)
theorem size_list (a : ByteArray) : a.data.toList.length = a.size := by simp
theorem str_beq (a b : ByteArray) : (a.toList == b.toList) = decide (a.data.toList = b.data.toList) := by
  rw [ByteArray.toList_eq, ByteArray.toList_eq, Bool.eq_iff_iff, beq_iff_eq, decide_eq_true_iff]
theorem ext_list (a : ByteArray) (m n : Nat) : (a.extract m n).data.toList = (a.data.toList.take n).drop m := by
  rw [ByteArray.data_extract, Array.toList_extract]
  simp [List.extract, List.drop_take]
end Go.Proofs.Ytfdlgdgjbfoogaa.M12
