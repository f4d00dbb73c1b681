/- What the bound of a statement of the second form gives of one argument. -/
import Derived.Test.YtjmnjcjpcmonjaaDoorRows
import Derived.Test.YtjmnjcjpcmonjaaDoorMem
import Derived.SliceStrings
namespace Go.Proofs.YtjmnjcjpcmonjaaDoor.Bulk
open Go.ChangeShapes Go.WideShapes Go.RowKit

theorem all_le {H : Type} {l : List (DataW H)} (h : Rows.uptoSmall H l = true) : Rows.uptoBulkAll l ≤ 1048576 := of_decide_eq_true h
theorem one_le {H : Type} {d : DataW H} : ∀ {l : List (DataW H)}, d ∈ l → Rows.uptoBulk d ≤ Rows.uptoBulkAll l
  | x :: r, h => by
    simp only [Rows.uptoBulkAll]
    rcases List.mem_cons.1 h with e | e
    · subst e; omega
    · have := one_le (l := r) e; omega
theorem part {H : Type} {l : List (DataW H)} {d : DataW H} (h : Rows.uptoSmall H l = true) (hd : d ∈ l) : Rows.uptoBulk d ≤ 1048576 := Nat.le_trans (one_le hd) (all_le h)
theorem strs_eq {H : Type} (ss : List ByteArray) : Rows.uptoBulkAll (strs (H := H) ss) = Mem.bulkS (ss.map fun s => s.data.toList) := by
  induction ss with
  | nil => rfl
  | cons s ss ih =>
    have e : (strs (H := H) (s :: ss)) = DataW.lit (.string s.data.toList) :: strs ss := rfl
    rw [e]
    simp only [Rows.uptoBulkAll, Rows.uptoBulk, ih]
    simp [Mem.bulkS]
theorem of_slice {H : Type} {ss rest : List ByteArray} (h : Rows.uptoBulk (DataW.slice (strs (H := H) ss) (strs rest)) ≤ 1048576) : Mem.bulkS (ss.map fun s => s.data.toList) ≤ 1048576 := by
  rw [← strs_eq (H := H)]
  simp only [Rows.uptoBulk] at h
  omega
end Go.Proofs.YtjmnjcjpcmonjaaDoor.Bulk
