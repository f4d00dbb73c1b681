/- Plain facts for layer 5: doubling as numbers, the bits of an exponent, powers by repeated squaring, the logarithm as the first exponent. No program is named here. -/
import Derived.Test.YtcfoclmkhippoaaG5Bits
namespace Go.Proofs.Ytcfoclmkhippoaa.G5
set_option maxRecDepth 100000
open Go.RowKit
set_option linter.unusedVariables false

/-! ### doubling -/
theorem stp_lo (x : R) (h : x.toNat < 128) : (stp x).toNat = x.toNat * 2 := by
  have hm : x.msb = false := by rw [BitVec.msb_eq_decide]; simp; omega
  unfold stp
  rw [hm, if_neg (by decide), BitVec.toNat_shiftLeft, Nat.shiftLeft_eq]
  omega
theorem stp_hi (x : R) (h : 128 ≤ x.toNat) : (stp x).toNat = (x.toNat * 2 % 256) ^^^ 29 := by
  have hm : x.msb = true := by rw [BitVec.msb_eq_decide]; simp; omega
  unfold stp
  rw [hm, if_pos rfl, BitVec.toNat_xor, BitVec.toNat_shiftLeft, Nat.shiftLeft_eq]
  rfl
theorem u8_and1 (n : Int) : bits .and .u8 n 1 = n % 2 := by
  have h1 : (BitVec.ofInt 8 1).toNat = 2 ^ 1 - 1 := by decide
  have key : (BitVec.ofInt 8 n &&& BitVec.ofInt 8 1).toNat = (n % ((2 ^ 8 : Nat) : Int)).toNat % 2 ^ 1 := by
    rw [BitVec.toNat_and, BitVec.toNat_ofInt, h1, Nat.and_two_pow_sub_one_eq_mod]
  show IntKind.u8.wrap ((BitVec.ofInt 8 n &&& BitVec.ofInt 8 1).toNat : Nat) = n % 2
  rw [key]
  unfold IntKind.wrap
  simp [IntKind.signed, IntKind.bits]
  omega
/-- A bit as a number. -/
theorem bit_val (x : R) (k : Nat) : bits .and .u8 ((x.toNat : Int) / 2 ^ k) 1 = if x.getLsbD k then 1 else 0 := by
  rw [u8_and1]
  have h := bit_test x k
  have hr : ((x.toNat : Int) / 2 ^ k) % 2 = 0 ∨ ((x.toNat : Int) / 2 ^ k) % 2 = 1 := by omega
  rcases hb : x.getLsbD k with _ | _
  · rw [hb, beq_eq_false_iff_ne] at h
    rw [if_neg (by decide)]
    omega
  · rw [hb, beq_iff_eq] at h
    rw [if_pos rfl]
    exact h

/-! ### the bits of an exponent, and powers by repeated squaring -/
def bitsF : Nat → Nat → List Bool
  | 0, _ => []
  | f + 1, n => if n = 0 then [] else (n % 2 == 1) :: bitsF f (n / 2)
theorem bitsF_zero : ∀ f, bitsF f 0 = []
  | 0 => rfl
  | f + 1 => rfl
theorem bitsF_pos (f n : Nat) (h : n ≠ 0) : bitsF (f + 1) n = (n % 2 == 1) :: bitsF f (n / 2) := if_neg h
theorem bitsF_len : ∀ f n, (bitsF f n).length ≤ f
  | 0, _ => Nat.le_refl _
  | f + 1, n => by
    show (if n = 0 then [] else (n % 2 == 1) :: bitsF f (n / 2)).length ≤ f + 1
    split
    · exact Nat.zero_le _
    · exact Nat.succ_le_succ (bitsF_len f (n / 2))
/-- One bit of the exponent: the product and the square so far. -/
def sq1 (s : R × R) (b : Bool) : R × R := (if b then tms s.1 s.2 else s.1, tms s.2 s.2)
def sqs (a : R) (l : List Bool) : R × R := l.foldl sq1 (1, a)
theorem sqs_nil (a : R) : sqs a [] = (1, a) := rfl
theorem sqs_snoc (a : R) (l : List Bool) (b : Bool) : sqs a (l ++ [b]) = sq1 (sqs a l) b := by simp [sqs]
theorem pw_sq (s : R) : ∀ m, pw (tms s s) m = pw s (2 * m)
  | 0 => rfl
  | m + 1 => by
    rw [show 2 * (m + 1) = 2 * m + 1 + 1 by omega]
    show tms (pw (tms s s) m) (tms s s) = tms (tms (pw s (2 * m)) s) s
    rw [pw_sq s m, tms_assoc]
theorem fold_pw : ∀ (f n : Nat) (p s : R), n < 2 ^ f → ((bitsF f n).foldl sq1 (p, s)).1 = tms p (pw s n)
  | 0, n, p, s, h => by
    obtain rfl : n = 0 := by omega
    show p = tms p 1
    rw [tms_one]
  | f + 1, n, p, s, h => by
    by_cases h0 : n = 0
    · subst h0
      show p = tms p 1
      rw [tms_one]
    · rw [bitsF_pos f n h0, List.foldl_cons]
      have hlt : n / 2 < 2 ^ f := by rw [Nat.pow_succ] at h; omega
      rw [show sq1 (p, s) (n % 2 == 1) = ((sq1 (p, s) (n % 2 == 1)).1, tms s s) from rfl, fold_pw f (n / 2) _ _ hlt, pw_sq]
      rcases Nat.mod_two_eq_zero_or_one n with hm | hm
      · rw [hm]
        show tms p (pw s (2 * (n / 2))) = _
        rw [show 2 * (n / 2) = n by omega]
      · rw [hm]
        show tms (tms p s) (pw s (2 * (n / 2))) = _
        rw [tms_assoc, tms_comm s]
        congr 1
        show pw s (2 * (n / 2) + 1) = _
        rw [show 2 * (n / 2) + 1 = n by omega]
theorem sqs_pw (a : R) (f n : Nat) (h : n < 2 ^ f) : (sqs a (bitsF f n)).1 = pw a n := by
  unfold sqs
  rw [fold_pw f n 1 a h, one_tms]

/-! ### inverses and logarithms -/
theorem po_neg_one (a : R) : po a (-1) = iv a := by
  by_cases h : a = 0
  · subst h
    decide
  · have h1 : tms a (po a (-1)) = 1 := by
      have e := po_add h (-1) 1
      rw [show (-1 : Int) + 1 = 0 by decide] at e
      have e0 : po a 0 = 1 := by unfold po; rw [if_neg h]; rfl
      have e1 : po a 1 = a := by
        unfold po
        rw [if_neg h]
        show tms 1 a = a
        rw [one_tms]
      rw [e0, e1] at e
      rw [tms_comm]
      exact e.symm
    exact iv_only h1
theorem iv_zero : iv 0 = 0 := rfl
theorem dv_all (a b : R) : tms a (iv b) = dv a b := by
  unfold dv
  by_cases h : b = 0
  · subst h
    rw [if_pos rfl, iv_zero, tms_zero]
  · rw [if_neg h]
theorem po_of {a : R} (h : a ≠ 0) (n : Int) : po a n = pw a (n % 255).toNat := by unfold po; rw [if_neg h]
theorem pw_two (k : Nat) : pw 2#8 k = it k 1 := by
  rw [show (2#8 : R) = it 1 1 by decide, pw_it, Nat.one_mul]
/-- The logarithm; 0 of 0. -/
def lo (a : R) : Nat := if a = 0 then 0 else lg a
theorem it_key : ∀ k : Fin 255, k.val ≠ 0 → it k.val 1 ≠ 1 := by decide +kernel
theorem it_lt {i j : Nat} (hi : i < j) (hj : j < 255) : it i 1 ≠ it j 1 := fun h => by
  rw [show j = (j - i) + i by omega, it_add] at h
  exact it_key ⟨j - i, by omega⟩ (by show j - i ≠ 0; omega) (it_inj i h).symm
theorem it_same {i j : Nat} (hi : i < 255) (hj : j < 255) (h : it i 1 = it j 1) : i = j := by
  rcases Nat.lt_trichotomy i j with hl | he | hl
  · exact absurd h (it_lt hl hj)
  · exact he
  · exact absurd h.symm (it_lt hl hi)
theorem lo_of {a : R} {j : Nat} (hj : j < 255) (h : it j 1 = a) : lo a = j := by
  have h0 : a ≠ 0 := fun e => it_ne j (h.trans e)
  unfold lo
  rw [if_neg h0]
  exact it_same (lg_lt h0) hj ((it_lg h0).trans h.symm)
theorem none_of {a : R} (h : ∀ i, i < 255 → it i 1 ≠ a) : a = 0 := by
  by_cases h0 : a = 0
  · exact h0
  · exact absurd (it_lg h0) (h _ (lg_lt h0))
theorem noinv_of {a : R} (h : ∀ i, 1 ≤ i → i < 256 → tms a (BitVec.ofNat 8 i) ≠ 1) : a = 0 := by
  by_cases h0 : a = 0
  · exact h0
  · have hi := tms_iv h0
    have hn : iv a ≠ 0 := fun e => by
      rw [e, tms_zero] at hi
      exact absurd hi (by decide)
    have h1 : (iv a).toNat ≠ 0 := fun e => hn (BitVec.eq_of_toNat_eq e)
    refine absurd ?_ (h (iv a).toNat (by omega) (iv a).isLt)
    rw [BitVec.ofNat_toNat, BitVec.setWidth_eq]
    exact hi
/-- Go's remainder, twice: the residue. -/
theorem go_mod2 (n : Int) : Int.tmod (Int.tmod n 255 + 255) 255 = n % 255 := by
  have h := go_mod n
  obtain ⟨K, hK⟩ : ∃ K, Int.tmod n 255 = K := ⟨_, rfl⟩
  have hb : -255 < K ∧ K < 255 := by
    rw [← hK]
    exact ⟨Int.lt_tmod_of_pos n (by decide), Int.tmod_lt_of_pos n (by decide)⟩
  rw [hK] at h ⊢
  rw [Int.tmod_eq_emod_of_nonneg (by omega)]
  split at h <;> omega
end Go.Proofs.Ytcfoclmkhippoaa.G5
