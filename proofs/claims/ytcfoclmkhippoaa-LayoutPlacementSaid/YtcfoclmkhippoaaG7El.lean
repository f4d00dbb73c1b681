/- Strings as words of field elements. -/
import Derived.Test.YtcfoclmkhippoaaG6At
import Derived.Test.YtcfoclmkhippoaaG7More
namespace Go.Proofs.Ytcfoclmkhippoaa.G7
set_option maxRecDepth 100000
open Go.Proofs.Ytcfoclmkhippoaa.G5
open Go.RowKit Mem
set_option linter.unusedVariables false
set_option linter.unusedSimpArgs false

theorem drewN_drewN (w : World) (m n : Nat) : (w.drewN m).drewN n = w.drewN (m + n) := by
  simp [World.drewN, Nat.add_assoc, Nat.add_comm, Nat.add_left_comm]
/-! ### strings as words -/
def el (s : ByteArray) : List R := s.data.toList.map UInt8.toBitVec
theorem el_len (s : ByteArray) : (el s).length = s.size := by simp [el]
theorem el_get (s : ByteArray) (k : Nat) (h : k < s.size) : (el s).getD k 0 = (s[k]).toBitVec := by
  have h' : k < s.data.toList.length := by simpa using h
  simp [el, List.getD_eq_getElem?_getD, List.getElem?_eq_getElem h']
  rfl
theorem u8s_el (s : ByteArray) : (⟨(G6.u8s (el s)).toArray⟩ : ByteArray) = s := by
  unfold G6.u8s el
  rw [List.map_map]
  have : (UInt8.ofBitVec ∘ UInt8.toBitVec) = id := by funext x; rfl
  rw [this, List.map_id]
theorem byte_val (s : ByteArray) (k : Nat) (h : k < s.size) (X : R) (hX : (el s).getD k 0 = X) : ((s[k]).toNat : Int) = (X.toNat : Int) := by
  rw [← hX, el_get s k h]
  rfl
theorem take_el (s : ByteArray) (k : Nat) (h : k < s.size) : (el s).take (k + 1) = (el s).take k ++ [(el s).getD k 0] := G6.take_snoc _ _ (by rw [el_len]; exact h)

/-- A word as a string. -/
def str (l : List R) : ByteArray := ⟨(G6.u8s l).toArray⟩
theorem str_el (s : ByteArray) : str (el s) = s := u8s_el s
theorem el_str (l : List R) : el (str l) = l := by
  unfold el str G6.u8s
  show (l.map UInt8.ofBitVec).map UInt8.toBitVec = l
  rw [List.map_map]
  have : (UInt8.toBitVec ∘ UInt8.ofBitVec) = id := by funext x; rfl
  rw [this, List.map_id]
theorem str_app (l m : List R) : str l ++ str m = str (l ++ m) := by
  apply ByteArray.ext
  simp [str, G6.u8s, ByteArray.data_append]
theorem size_str (l : List R) : (str l).size = l.length := by rw [← el_len, el_str]
theorem str_inj {l m : List R} (h : str l = str m) : l = m := by rw [← el_str l, h, el_str]
theorem str_same (l m : List R) : ((str l).toList == (str m).toList) = (l == m) := G6.str_same l m
end Go.Proofs.Ytcfoclmkhippoaa.G7
