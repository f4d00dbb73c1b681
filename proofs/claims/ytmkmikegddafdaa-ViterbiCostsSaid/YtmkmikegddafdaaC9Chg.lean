/- A string with one byte replaced: what its parts joined give. No program is named here. -/
import Derived.Test.YtmkmikegddafdaaC9Math
namespace Go.Proofs.Ytmkmikegddafdaa.C9
set_option linter.unusedVariables false
set_option linter.unusedSimpArgs false

/-- A string with one byte replaced. -/
def chg (c : ByteArray) (i : Nat) (o : UInt8) : ByteArray := ⟨(c.data.toList.set i o).toArray⟩
theorem chg_size (c : ByteArray) (i : Nat) (o : UInt8) : (chg c i o).size = c.size := by
  show (c.data.toList.set i o).toArray.size = c.data.size
  simp
theorem list_split {α : Type} (l : List α) (i : Nat) (o : α) (h : i < l.length) : l.take i ++ [o] ++ l.drop (i + 1) = l.set i o := by
  rw [List.set_eq_take_append_cons_drop, if_pos h]
  simp
theorem split_chg (c : ByteArray) (i I : Nat) (hI : i + 1 = I) (o : UInt8) (h : i < c.size) : c.extract 0 i ++ ⟨#[o]⟩ ++ c.extract I c.size = chg c i o := by
  subst hI
  apply ByteArray.ext
  apply Array.toList_inj.1
  show _ = (c.data.toList.set i o).toArray.toList
  have h' : i < c.data.toList.length := by simpa using h
  simp only [ByteArray.data_append, ByteArray.data_extract, Array.toList_append, Array.toList_extract]
  rw [← list_split _ _ _ h']
  have hsz : c.size = c.data.toList.length := by rw [Array.length_toList]; rfl
  rw [hsz]
  have e2 : (c.data.toList.drop (i + 1)).take (c.data.toList.length - (i + 1)) = c.data.toList.drop (i + 1) := List.take_of_length_le (by rw [List.length_drop]; exact Nat.le_refl _)
  rw [List.extract_eq_take_drop, List.extract_eq_take_drop, e2, List.drop_zero, Nat.sub_zero]
theorem one_slice (c : ByteArray) (i I : Nat) (hI : i + 1 = I) (h : i < c.size) : c.extract i I = ⟨#[c[i]]⟩ := by
  subst hI
  apply ByteArray.ext
  apply Array.toList_inj.1
  have h' : i < c.data.toList.length := by simpa using h
  simp only [ByteArray.data_extract, Array.toList_extract]
  rw [List.extract_eq_take_drop, Nat.add_sub_cancel_left, List.drop_eq_getElem_cons h']
  rfl
end Go.Proofs.Ytmkmikegddafdaa.C9
