/- Plain facts on lists of bytes for layer 1 (cells): what Check, Unreadable, Invert, FromBytes, ToBytes and Distance compute. No program is named here. -/
import Derived.Calls
namespace Go.Proofs.Ytpekdmplphpheaa.C1

def okB (b : UInt8) : Bool := b == 48 || b == 49 || b == 63
def chk (l : List UInt8) : Int := if l.all okB = true then 0 else 3
def unr (l : List UInt8) : Nat := (l.filter (· == 63)).length
def invC (b : UInt8) : UInt8 := if b = 48 then 49 else if b = 49 then 48 else b
def inv (l : List UInt8) : List UInt8 := l.map invC

theorem take_snoc (s : ByteArray) (k : Nat) (h : k < s.size) : s.data.toList.take (k + 1) = s.data.toList.take k ++ [s[k]] := by
  rw [List.take_succ_eq_append_getElem (by simpa using h)]; rfl
theorem take_all (s : ByteArray) : s.data.toList.take s.size = s.data.toList := List.take_of_length_le (by simp)
theorem getl (s : ByteArray) (k : Nat) (h : k < s.size) : s.data.toList[k]'(by simpa using h) = s[k] := rfl

theorem okB_of (c : UInt8) : okB c = (decide ((c.toNat : Int) = 48) || decide ((c.toNat : Int) = 49) || decide ((c.toNat : Int) = 63)) := by
  have h : ∀ n : UInt8, (c == n) = decide ((c.toNat : Int) = (n.toNat : Int)) := by
    intro n
    rw [Bool.eq_iff_iff]
    simp [← UInt8.toNat_inj]
    omega
  unfold okB
  rw [h, h, h]
  rfl

theorem okB_iff (c : UInt8) : okB c = true ↔ ((c.toNat : Int) == 48) = true ∨ ((c.toNat : Int) == 49) = true ∨ ((c.toNat : Int) == 63) = true := by
  rw [okB_of]
  simp [or_assoc]
theorem okB_yes1 {c : UInt8} (h : ((c.toNat : Int) == 48) = true) : okB c = true := (okB_iff c).2 (.inl h)
theorem okB_yes2 {c : UInt8} (h : ((c.toNat : Int) == 49) = true) : okB c = true := (okB_iff c).2 (.inr (.inl h))
theorem okB_yes3 {c : UInt8} (h : ((c.toNat : Int) == 63) = true) : okB c = true := (okB_iff c).2 (.inr (.inr h))
theorem okB_no {c : UInt8} (h1 : ((c.toNat : Int) == 48) = false) (h2 : ((c.toNat : Int) == 49) = false) (h3 : ((c.toNat : Int) == 63) = false) : okB c = false := by
  rcases hc : okB c with _ | _
  · rfl
  · rcases (okB_iff c).1 hc with h | h | h
    · rw [h1] at h; cases h
    · rw [h2] at h; cases h
    · rw [h3] at h; cases h
theorem ne_of_eq {c : Int} {n : Int} (h : (c == n) = true) : (c != n) = false := by simp [bne, h]
theorem ne_of_no {c : Int} {n : Int} (h : (c == n) = false) : (c != n) = true := by simp [bne, h]
theorem ret_int {k : IntKind} {a b : Int} (h : a = b) : Ending.returned (.int k a) = .returned (.int k b) := by rw [h]

theorem chk_bad (s : ByteArray) (k : Nat) (h : k < s.size) (hb : okB s[k] = false) : chk s.data.toList = 3 := by
  unfold chk
  rw [if_neg]
  intro ha
  have := List.all_eq_true.mp ha s[k] (by rw [← getl s k h]; exact List.getElem_mem _)
  rw [hb] at this
  cases this
theorem all_snoc (s : ByteArray) (k : Nat) (h : k < s.size) (ha : (s.data.toList.take k).all okB = true) (hb : okB s[k] = true) : (s.data.toList.take (k + 1)).all okB = true := by
  rw [take_snoc s k h]
  simp [ha, hb]
theorem chk_good (s : ByteArray) (ha : (s.data.toList.take s.size).all okB = true) : chk s.data.toList = 0 := by
  rw [take_all] at ha
  unfold chk
  rw [if_pos ha]

theorem is63 (c : UInt8) : (c == 63) = ((c.toNat : Int) == 63) := by
  rw [Bool.eq_iff_iff]
  simp [← UInt8.toNat_inj]
  omega
theorem unr_snoc_yes (s : ByteArray) (k : Nat) (h : k < s.size) (hb : (((s[k]).toNat : Int) == 63) = true) : unr (s.data.toList.take (k + 1)) = unr (s.data.toList.take k) + 1 := by
  rw [take_snoc s k h]
  unfold unr
  rw [List.filter_append]
  simp [is63, hb]
theorem unr_snoc_no (s : ByteArray) (k : Nat) (h : k < s.size) (hb : (((s[k]).toNat : Int) == 63) = false) : unr (s.data.toList.take (k + 1)) = unr (s.data.toList.take k) := by
  rw [take_snoc s k h]
  unfold unr
  rw [List.filter_append]
  simp [is63, hb]
theorem unr_le (l : List UInt8) : unr l ≤ l.length := List.length_filter_le _ _

end Go.Proofs.Ytpekdmplphpheaa.C1
