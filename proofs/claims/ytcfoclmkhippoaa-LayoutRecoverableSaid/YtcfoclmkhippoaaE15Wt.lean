/- Plain facts for layer 15: a weight as a quotient of two products; the first shares with different numbers, found step by step. No program is named here. -/
import Derived.Test.YtcfoclmkhippoaaE15Stp
namespace Go.Proofs.Ytcfoclmkhippoaa.E15
open Go.Proofs.Ytcfoclmkhippoaa.G5
open Go.Proofs.Ytcfoclmkhippoaa.G6
set_option linter.unusedVariables false
set_option linter.unusedSimpArgs false

/-- The product of the first i differences of x and the points but point k. -/
def abv (xl : List R) (k : Nat) (x : R) : Nat → R
  | 0 => 1
  | i + 1 => if i = k then abv xl k x i else tms (abv xl k x i) (x ^^^ xl.getD i 0)
theorem abv_skip (xl : List R) (k : Nat) (x : R) : abv xl k x (k + 1) = abv xl k x k := if_pos rfl
theorem abv_step {xl : List R} {k i : Nat} (h : i ≠ k) (x : R) : abv xl k x (i + 1) = tms (abv xl k x i) (x ^^^ xl.getD i 0) := if_neg h
theorem iv_ne {a : R} (h : a ≠ 0) : iv a ≠ 0 := fun e => by
  have := tms_iv h
  rw [e, tms_zero] at this
  exact absurd this (by decide)
theorem iv_mul {a b : R} (ha : a ≠ 0) (hb : b ≠ 0) : iv (tms a b) = tms (iv a) (iv b) := by
  refine (iv_only ?_).symm
  rw [tms_assoc, tac b, tms_iv hb, tms_one, tms_iv ha]
theorem abv_wgt {xl : List R} (hn : xl.Nodup) {k : Nat} (hk : k < xl.length) (x : R) : ∀ i, i ≤ xl.length → abv xl k (xl.getD k 0) i ≠ 0 ∧ wgt xl k x i = tms (abv xl k x i) (iv (abv xl k (xl.getD k 0) i))
  | 0, _ => ⟨by show (1 : R) ≠ 0; decide, by show (1 : R) = tms 1 (iv 1); decide +kernel⟩
  | i + 1, hi => by
    obtain ⟨h1, h2⟩ := abv_wgt hn hk x i (by omega)
    by_cases e : i = k
    · subst e
      rw [abv_skip, abv_skip, wgt_skip]
      exact ⟨h1, h2⟩
    · have hd := getD_ne hn hk (j := i) (by omega) (fun h => e h.symm)
      rw [abv_step e, abv_step e, wgt_step e, h2]
      refine ⟨tms_ne h1 hd, ?_⟩
      rw [iv_mul h1 hd]
      rw [tms_assoc, tms_assoc, tac (iv (abv xl k (xl.getD k 0) i))]
theorem wgt_dv {xl : List R} (hn : xl.Nodup) {k : Nat} (hk : k < xl.length) (x : R) : dv (abv xl k x xl.length) (abv xl k (xl.getD k 0) xl.length) = wgt xl k x xl.length := by
  rw [← dv_all, (abv_wgt hn hk x _ (Nat.le_refl _)).2]

/-! ### The first shares -/
theorem first_full (d : Nat) (acc l : List Sh) (h : d ≤ acc.length) : firstF d acc l = acc := by
  cases l with
  | nil => rfl
  | cons s l =>
    show (if acc.length < d then _ else acc) = acc
    rw [if_neg (by omega)]
theorem first_old {d : Nat} {acc : List Sh} {s : Sh} (h : acc.length < d) (hm : s.1 ∈ acc.map Prod.fst) (l : List Sh) : firstF d acc (s :: l) = firstF d acc l := by
  show (if acc.length < d then (if s.1 ∈ acc.map Prod.fst then _ else _) else acc) = _
  rw [if_pos h, if_pos hm]
theorem first_new {d : Nat} {acc : List Sh} {s : Sh} (h : acc.length < d) (hm : s.1 ∉ acc.map Prod.fst) (l : List Sh) : firstF d acc (s :: l) = firstF d (acc ++ [s]) l := by
  show (if acc.length < d then (if s.1 ∈ acc.map Prod.fst then _ else _) else acc) = _
  rw [if_pos h, if_neg hm]
theorem first_front (d : Nat) : ∀ (l acc : List Sh), ∃ t, firstF d acc l = acc ++ t
  | [], acc => ⟨[], by simp [firstF]⟩
  | s :: l, acc => by
    by_cases h : acc.length < d
    · by_cases hm : s.1 ∈ acc.map Prod.fst
      · rw [first_old h hm]
        exact first_front d l acc
      · rw [first_new h hm]
        obtain ⟨t, ht⟩ := first_front d l (acc ++ [s])
        exact ⟨s :: t, by rw [ht]; simp⟩
    · rw [first_full d acc _ (by omega)]
      exact ⟨[], by simp⟩
/-- Fewer of the first shares are a front of more of them. -/
theorem first_take {d D : Nat} (hd : d ≤ D) : ∀ (l acc : List Sh), acc.length ≤ d → firstF d acc l = (firstF D acc l).take d
  | [], acc, h => by
    show acc = acc.take d
    rw [List.take_of_length_le h]
  | s :: l, acc, h => by
    by_cases hl : acc.length < d
    · by_cases hm : s.1 ∈ acc.map Prod.fst
      · rw [first_old hl hm, first_old (by omega) hm]
        exact first_take hd l acc h
      · rw [first_new hl hm, first_new (by omega) hm]
        exact first_take hd l _ (by rw [List.length_append]; simp; omega)
    · rw [first_full d acc _ (by omega)]
      obtain ⟨t, ht⟩ := first_front D (s :: l) acc
      rw [ht, List.take_append_of_le_length (by omega), List.take_of_length_le h]
theorem first_len (d : Nat) : ∀ (l acc : List Sh), (firstF d acc l).length ≤ acc.length + l.length
  | [], acc => by simp [firstF]
  | s :: l, acc => by
    by_cases h : acc.length < d
    · by_cases hm : s.1 ∈ acc.map Prod.fst
      · rw [first_old h hm]
        have := first_len d l acc
        simp
        omega
      · rw [first_new h hm]
        have := first_len d l (acc ++ [s])
        simp at this ⊢
        omega
    · rw [first_full d acc _ (by omega)]
      omega
end Go.Proofs.Ytcfoclmkhippoaa.E15
