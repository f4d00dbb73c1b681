/- Plain facts for the law CellsErasure: what making cells unreadable does to the bytes and to the list of indices. -/
import Derived.Test.YtkjbbhlekadomaaC1Law5
namespace Go.Proofs.Ytkjbbhlekadomaa.C1
open Go.RowKit Mem
set_option linter.unusedVariables false

/-- cs is F with cells made unreadable; hs tells the bytes that were hit. -/
structure Er (F cs : List UInt8) (hs : List Bool) (n : Nat) : Prop where
  len : cs.length = F.length
  hlen : hs.length = n
  flen : F.length = 8 * n
  any : ∀ j, j < F.length → cs[j]? = some 63 ∨ cs[j]? = F[j]?
  no : ∀ j, j < F.length → hs[j / 8]? = some false → cs[j]? = F[j]?
  yes : ∀ i, i < n → hs[i]? = some true → ∃ j, j < 8 ∧ cs[8 * i + j]? = some 63
theorem Er.start (F : List UInt8) (n : Nat) (h : F.length = 8 * n) : Er F F (List.replicate n false) n :=
  ⟨rfl, by simp, h, fun _ _ => .inr rfl, fun _ _ _ => rfl, fun i hi h => by simp [hi] at h⟩
theorem Er.step {F cs : List UInt8} {hs : List Bool} {n : Nat} (h : Er F cs hs n) {r : Nat} (hr : r < F.length) : Er F (cs.set r 63) (hs.set (r / 8) true) n := by
  have hl := h.len
  have hf := h.flen
  have hh := h.hlen
  refine ⟨by simpa using hl, by simpa using hh, hf, fun j hj => ?_, fun j hj hno => ?_, fun i hi hy => ?_⟩
  · by_cases e : r = j
    · subst e
      left
      rw [List.getElem?_set_self (by omega)]
    · rw [List.getElem?_set_ne e]
      exact h.any j hj
  · by_cases e : r / 8 = j / 8
    · rw [e, List.getElem?_set_self (by omega)] at hno
      cases hno
    · rw [List.getElem?_set_ne e] at hno
      rw [List.getElem?_set_ne (fun x => e (by rw [x]))]
      exact h.no j hj hno
  · by_cases e : r / 8 = i
    · refine ⟨r % 8, by omega, ?_⟩
      rw [show 8 * i + r % 8 = r by omega, List.getElem?_set_self (by omega)]
    · rw [List.getElem?_set_ne e] at hy
      obtain ⟨j, hj, hc⟩ := h.yes i hi hy
      refine ⟨j, hj, ?_⟩
      by_cases e2 : r = 8 * i + j
      · rw [e2, List.getElem?_set_self (by omega)]
      · rw [List.getElem?_set_ne e2]
        exact hc
theorem all_get {l : List UInt8} (h : ∀ j, j < l.length → ∃ c, l[j]? = some c ∧ okB c = true) : chk l = 0 := by
  unfold chk
  rw [if_pos]
  rw [List.all_eq_true]
  intro x hx
  obtain ⟨j, hj, rfl⟩ := List.mem_iff_getElem.1 hx
  obtain ⟨c, hc, ho⟩ := h j hj
  rw [List.getElem?_eq_getElem hj] at hc
  injection hc with hc
  rw [hc]
  exact ho
theorem ok_of_chk {l : List UInt8} (h : chk l = 0) : ∀ c ∈ l, okB c = true := by
  unfold chk at h
  by_cases h1 : l.all okB = true
  · exact List.all_eq_true.1 h1
  · rw [if_neg h1] at h; omega
theorem Er.chk {F cs : List UInt8} {hs : List Bool} {n : Nat} (h : Er F cs hs n) (hF : chk F = 0) : chk cs = 0 := by
  refine all_get fun j hj => ?_
  have hj' : j < F.length := by rw [← h.len]; exact hj
  rcases h.any j hj' with e | e
  · exact ⟨63, e, rfl⟩
  · exact ⟨F[j], by rw [e, List.getElem?_eq_getElem hj'], ok_of_chk hF _ (List.getElem_mem _)⟩
theorem grp_get (l : List UInt8) (i j : Nat) (hj : j < 8) : (grp l i)[j]? = l[8 * i + j]? := by
  unfold grp
  rw [List.getElem?_take, if_pos hj, List.getElem?_drop]
theorem Er.grp_no {F cs : List UInt8} {hs : List Bool} {n i : Nat} (h : Er F cs hs n) (hi : i < n) (hn : hs[i]? = some false) : grp cs i = grp F i := by
  have hl := h.len
  have hf := h.flen
  apply List.ext_getElem?
  intro j
  by_cases hj : j < 8
  · rw [grp_get _ _ _ hj, grp_get _ _ _ hj]
    exact h.no _ (by omega) (by rw [show (8 * i + j) / 8 = i by omega]; exact hn)
  · rw [List.getElem?_eq_none (by have := List.length_take_le 8 (cs.drop (8 * i)); unfold grp; omega), List.getElem?_eq_none (by have := List.length_take_le 8 (F.drop (8 * i)); unfold grp; omega)]
theorem Er.unr_yes {F cs : List UInt8} {hs : List Bool} {n i : Nat} (h : Er F cs hs n) (hi : i < n) (hy : hs[i]? = some true) : 0 < unr (grp cs i) := by
  obtain ⟨j, hj, hc⟩ := h.yes i hi hy
  rw [← grp_get _ _ _ hj] at hc
  unfold unr
  rw [List.length_pos_iff]
  intro e
  rw [List.filter_eq_nil_iff] at e
  exact e 63 (List.mem_of_getElem? hc) rfl

/-- What is known of the list of indices at byte i. -/
theorem bad_prefix (l : List UInt8) (m n : Nat) (h : m ≤ n) : ∃ r, bad l n = bad l m ++ r := by
  induction n with
  | zero =>
    obtain rfl : m = 0 := by omega
    exact ⟨[], by simp⟩
  | succ n ih =>
    by_cases e : m = n + 1
    · subst e; exact ⟨[], by simp⟩
    · obtain ⟨r, hr⟩ := ih (by omega)
      by_cases hu : 0 < unr (grp l n)
      · exact ⟨r ++ [n], by rw [bad_yes l n hu, hr, List.append_assoc]⟩
      · exact ⟨r, by rw [bad_no l n hu, hr]⟩
theorem bad_at (l : List UInt8) (i n : Nat) (hi : i < n) (hu : 0 < unr (grp l i)) : (bad l i).length < (bad l n).length ∧ (bad l n)[(bad l i).length]? = some i := by
  obtain ⟨r, hr⟩ := bad_prefix l (i + 1) n (by omega)
  rw [bad_yes l i hu] at hr
  rw [hr]
  refine ⟨by simp, ?_⟩
  rw [List.append_assoc, List.getElem?_append_right (Nat.le_refl _), Nat.sub_self]
  rfl
theorem toB_get (l : List UInt8) (n i : Nat) (hi : i < n) : (toB l n)[i]? = some (UInt8.ofNat (num (grp l i))) := by
  simp [toB, hi]
theorem count_unr (l : List UInt8) : Lib.countByte l 63 = unr l := by
  unfold Lib.countByte unr
  rw [List.count_eq_length_filter]
end Go.Proofs.Ytkjbbhlekadomaa.C1
