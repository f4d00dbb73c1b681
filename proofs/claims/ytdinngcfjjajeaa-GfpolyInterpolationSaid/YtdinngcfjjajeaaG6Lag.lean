/- Plain facts for layer 6: Lagrange's formula. No program is named here. -/
import Derived.Test.YtdinngcfjjajeaaG6Ref3
namespace Go.Proofs.Ytdinngcfjjajeaa.G6
open Go.Proofs.Ytdinngcfjjajeaa.G5
set_option linter.unusedVariables false
set_option linter.unusedSimpArgs false

def lag (xl : List R) (i : Nat) : Nat → R → R
  | 0, _ => 1
  | k + 1, x => if k = i then lag xl i k x else tms (iv (xl.getD i 0 ^^^ xl.getD k 0)) (tms (lag xl i k x) (xl.getD k 0 ^^^ x))
theorem lag_at (xl : List R) (i k : Nat) (x : R) (h : k = i) : lag xl i (k + 1) x = lag xl i k x := by
  show (if k = i then _ else _) = _
  rw [if_pos h]
theorem lag_on (xl : List R) (i k : Nat) (x : R) (h : k ≠ i) : lag xl i (k + 1) x = tms (iv (xl.getD i 0 ^^^ xl.getD k 0)) (tms (lag xl i k x) (xl.getD k 0 ^^^ x)) := by
  show (if k = i then _ else _) = _
  rw [if_neg h]
theorem lag_self (xl : List R) (i : Nat) : ∀ k, (∀ j, j < k → j ≠ i → xl.getD j 0 ≠ xl.getD i 0) → lag xl i k (xl.getD i 0) = 1
  | 0, _ => rfl
  | k + 1, h => by
    have ih := lag_self xl i k fun j hj => h j (by omega)
    by_cases hk : k = i
    · rw [lag_at _ _ _ _ hk, ih]
    · rw [lag_on _ _ _ _ hk, ih, one_tms, BitVec.xor_comm (xl.getD k 0)]
      exact iv_tms fun e => h k (by omega) hk (xor_eq_zero e).symm
theorem lag_other (xl : List R) (i j : Nat) (hji : j ≠ i) : ∀ k, j < k → lag xl i k (xl.getD j 0) = 0
  | 0, h => absurd h (Nat.not_lt_zero j)
  | k + 1, h => by
    by_cases hk : k = i
    · rw [lag_at _ _ _ _ hk]
      exact lag_other xl i j hji k (by omega)
    · rw [lag_on _ _ _ _ hk]
      by_cases hj : j = k
      · subst hj
        rw [xs, tms_zero, tms_zero]
      · rw [lag_other xl i j hji k (by omega), zero_tms, tms_zero]
def lsum (xl yl : List R) (n : Nat) : Nat → R → R
  | 0, _ => 0
  | i + 1, x => lsum xl yl n i x ^^^ tms (yl.getD i 0) (lag xl i n x)
theorem lsum_at (xl yl : List R) (n j : Nat) (hj : j < n) (hd : ∀ a b, a < n → b < n → a ≠ b → xl.getD a 0 ≠ xl.getD b 0) : ∀ i, i ≤ n → lsum xl yl n i (xl.getD j 0) = if j < i then yl.getD j 0 else 0
  | 0, _ => by rw [if_neg (by omega)]; rfl
  | i + 1, h => by
    show lsum xl yl n i (xl.getD j 0) ^^^ tms (yl.getD i 0) (lag xl i n (xl.getD j 0)) = _
    rw [lsum_at xl yl n j hj hd i (by omega)]
    by_cases hji : j = i
    · subst hji
      rw [if_neg (by omega), if_pos (by omega), lag_self xl j n (fun k hk hne => hd k j hk hj hne), tms_one, zx]
    · rw [lag_other xl i j hji n hj, tms_zero, xz]
      by_cases h2 : j < i
      · rw [if_pos h2, if_pos (by omega)]
      · rw [if_neg h2, if_neg (by omega)]
theorem getD_of (l : List R) (i : Nat) (h : i < l.length) : l.getD i 0 = l[i] := by simp [List.getD_eq_getElem?_getD, List.getElem?_eq_getElem h]
theorem nodup_of {l : List R} (h : ∀ a b, a < l.length → b < a → l.getD a 0 ≠ l.getD b 0) : l.Nodup := by
  rw [List.nodup_iff_pairwise_ne, List.pairwise_iff_getElem]
  intro i j hi hj hij e
  exact h j i hj hij (by rw [getD_of l j hj, getD_of l i hi, e])
theorem ne_of_nodup {l : List R} (h : l.Nodup) {a b : Nat} (ha : a < l.length) (hb : b < l.length) (hab : a ≠ b) : l.getD a 0 ≠ l.getD b 0 := by
  rw [getD_of l a ha, getD_of l b hb]
  rw [List.nodup_iff_pairwise_ne, List.pairwise_iff_getElem] at h
  rcases Nat.lt_trichotomy a b with hl | he | hl
  · exact h a b ha hb hl
  · exact absurd he hab
  · exact fun e => h b a hb ha hl e.symm
theorem Itp.of_lsum {xl yl l : List R} (hn : xl.Nodup) (ht : Tr l) (hl : l.length ≤ xl.length) (he : ∀ x, ev l x = lsum xl yl xl.length xl.length x) : Itp xl yl l :=
  ⟨ht, hl, fun i hi => by
    rw [he, ← getD_of xl i hi, lsum_at xl yl xl.length i hi (fun a b ha hb hab => ne_of_nodup hn ha hb hab) xl.length (Nat.le_refl _), if_pos hi]⟩
theorem ml_lin_len (a b : R) : ∀ p : List R, (ml p [a, b]).length ≤ p.length + 1
  | [] => Nat.zero_le _
  | c :: p => by
    have := ml_lin_len a b p
    rw [show ml (c :: p) [a, b] = ad (sc c [a, b]) (0 :: ml p [a, b]) from rfl, ad_len, sc_len]
    simp
    omega
theorem mulL_lin_len (a b : R) (p : List R) : (mulL p [a, b]).length ≤ p.length + 1 := Nat.le_trans (trim_len _) (ml_lin_len a b p)
theorem scL0_len (p : List R) (c : R) : (scL p c 0).length ≤ p.length := by have := scL_len p c 0; omega
end Go.Proofs.Ytdinngcfjjajeaa.G6
