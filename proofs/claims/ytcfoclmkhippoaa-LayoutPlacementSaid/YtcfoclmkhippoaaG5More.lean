/- Plain facts for layer 5 (gf256): exponents that are integers, powers, division, equations. No program is named here. -/
import Derived.Test.YtcfoclmkhippoaaG5Math
namespace Go.Proofs.Ytcfoclmkhippoaa.G5
set_option maxRecDepth 100000
set_option linter.unusedVariables false

theorem it_255s : ∀ q : Nat, it (255 * q) 1 = 1
  | 0 => rfl
  | q + 1 => by rw [show 255 * (q + 1) = 255 + 255 * q by omega, it_add, it_255, it_255s q]
theorem it_mod (n : Nat) : it n 1 = it (n % 255) 1 := by
  conv => lhs; rw [← Nat.div_add_mod n 255]
  rw [it_add, it_255s]
theorem it_tms (i j : Nat) : tms (it i 1) (it j 1) = it (i + j) 1 := by rw [tms_pow, ← it_add]
theorem it_ne (n : Nat) : it n 1 ≠ 0 := fun h => absurd (it_inj0 n h) (by decide)

/-! ### exponents -/
def ex (n : Int) : R := it (n % 255).toNat 1
theorem ex_nat (n : Nat) : ex (n : Int) = it n 1 := by
  unfold ex
  rw [it_mod n]
  congr 1
theorem ex_add (x y : Int) : ex (x + y) = tms (ex x) (ex y) := by
  unfold ex
  rw [it_tms, it_mod ((x % 255).toNat + (y % 255).toNat)]
  congr 1
  omega
theorem ex_period (x : Int) : ex (x + 255) = ex x := by
  unfold ex
  congr 1
  omega
theorem ex_ne (x : Int) : ex x ≠ 0 := it_ne _
theorem ex_lg {a : R} (h : a ≠ 0) : ex (lg a : Int) = a := by rw [ex_nat, it_lg h]

/-! ### powers -/
theorem pw_it (k : Nat) : ∀ n, pw (it k 1) n = it (k * n) 1
  | 0 => rfl
  | n + 1 => by
    show tms (pw (it k 1) n) (it k 1) = _
    rw [pw_it k n, it_tms, Nat.mul_succ]
theorem pw_mod {a : R} (h : a ≠ 0) (n : Nat) : pw a n = pw a (n % 255) := by
  rw [← it_lg h, pw_it, pw_it, it_mod, it_mod (lg a * (n % 255))]
  congr 1
  rw [Nat.mul_mod, Nat.mul_mod (lg a) (n % 255), Nat.mod_mod]
def po (a : R) (n : Int) : R := if a = 0 then (if n = 0 then 1 else 0) else pw a (n % 255).toNat
def pk (a : R) (n : Int) : Bool := !(a == 0) || decide (0 ≤ n)
theorem po_add {a : R} (h : a ≠ 0) (m n : Int) : po a (m + n) = tms (po a m) (po a n) := by
  unfold po
  rw [if_neg h, if_neg h, if_neg h, ← pw_add, pw_mod h ((m % 255).toNat + (n % 255).toNat)]
  congr 1
  omega
theorem po_two (a : R) : po a 2 = tms a a := by
  unfold po
  by_cases h : a = 0
  · subst h
    decide
  · rw [if_neg h]
    show tms (tms 1 a) a = _
    rw [one_tms]
theorem po_256 (a : R) : po a 256 = a := by
  unfold po
  by_cases h : a = 0
  · subst h
    decide
  · rw [if_neg h]
    show tms 1 a = _
    rw [one_tms]
theorem xor4r (a b c d : R) : (a ^^^ b) ^^^ (c ^^^ d) = (a ^^^ c) ^^^ (b ^^^ d) := by
  rw [BitVec.xor_assoc, BitVec.xor_assoc]
  congr 1
  rw [← BitVec.xor_assoc, ← BitVec.xor_assoc, BitVec.xor_comm b c]
/-- Squaring is additive. -/
theorem frob (a b : R) : tms (a ^^^ b) (a ^^^ b) = tms a a ^^^ tms b b := by
  rw [tms_a, tms_b, tms_b, tms_comm b a, BitVec.xor_comm (tms a b) (tms b b), xor4r, BitVec.xor_self, BitVec.xor_zero]

/-! ### division, equations -/
def dv (a b : R) : R := if b = 0 then 0 else tms a (iv b)
theorem iv_tms {a : R} (h : a ≠ 0) : tms (iv a) a = 1 := by rw [tms_comm, tms_iv h]
theorem iv_only {a x : R} (h : tms a x = 1) : x = iv a := by
  have h0 : a ≠ 0 := fun e => by
    rw [e, zero_tms] at h
    exact absurd h (by decide)
  have h2 : tms (iv a) (tms a x) = x := by rw [← tms_assoc, iv_tms h0, one_tms]
  rw [h, tms_one] at h2
  exact h2.symm
theorem dv_tms {b : R} (a : R) (h : b ≠ 0) : dv (tms a b) b = a := by
  unfold dv
  rw [if_neg h, tms_assoc, tms_iv h, tms_one]
theorem tms_dv {a : R} (b : R) (h : a ≠ 0) : tms a (dv b a) = b := by
  unfold dv
  rw [if_neg h, tms_comm b, ← tms_assoc, tms_iv h, one_tms]
theorem xor_zero_iff {a b : R} : a ^^^ b = 0 ↔ a = b := ⟨xor_eq_zero, fun h => by rw [h, BitVec.xor_self]; rfl⟩
theorem lin_one {a : R} (b x : R) (h : a ≠ 0) : tms a x ^^^ b = 0 ↔ x = dv b a := by
  rw [xor_zero_iff]
  constructor
  · intro e
    rw [← e, tms_comm a x, dv_tms x h]
  · intro e
    rw [e, tms_dv b h]
theorem quad (a b x : R) : tms x x ^^^ tms (a ^^^ b) x ^^^ tms a b = tms (x ^^^ a) (x ^^^ b) := by
  rw [tms_a x a (x ^^^ b), tms_b, tms_b, tms_a a b x, tms_comm b x, BitVec.xor_comm (tms a x) (tms x b), ← BitVec.xor_assoc, BitVec.xor_assoc, BitVec.xor_assoc]
theorem quad_zero (a b x : R) : tms x x ^^^ tms (a ^^^ b) x ^^^ tms a b = 0 ↔ x = a ∨ x = b := by
  rw [quad]
  constructor
  · intro h
    rcases tms_eq_zero h with h | h
    · exact .inl (xor_eq_zero h)
    · exact .inr (xor_eq_zero h)
  · rintro (rfl | rfl)
    · rw [BitVec.xor_self]; exact zero_tms _
    · rw [BitVec.xor_self]; exact tms_zero _
theorem tms_zero_iff (a b : R) : tms a b = 0 ↔ a = 0 ∨ b = 0 := ⟨tms_eq_zero, by rintro (rfl | rfl); exact zero_tms _; exact tms_zero _⟩
theorem tms_add_left (a b c : R) : tms a (b ^^^ c) = tms a b ^^^ tms a c := tms_b a b c
/-- The remainder that Go computes, made positive: the residue. -/
theorem go_mod (n : Int) : (if Int.tmod n 255 < 0 then Int.tmod n 255 + 255 else Int.tmod n 255) = n % 255 := by
  by_cases h : 0 ≤ n
  · rw [Int.tmod_eq_emod_of_nonneg h]
    split <;> omega
  · obtain ⟨m, rfl⟩ : ∃ m : Int, n = -m := ⟨-n, by omega⟩
    rw [Int.neg_tmod, Int.tmod_eq_emod_of_nonneg (by omega)]
    split <;> omega
end Go.Proofs.Ytcfoclmkhippoaa.G5
