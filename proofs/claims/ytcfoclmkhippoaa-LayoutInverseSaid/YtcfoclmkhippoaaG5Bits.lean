/- Plain facts for layer 5: what the loops over bits compute, as numbers. No program is named here. -/
import Derived.Test.YtcfoclmkhippoaaG5More
import Derived.Laws.BitsAllLaws
import Derived.Test.YtcfoclmkhippoaaMem
namespace Go.Proofs.Ytcfoclmkhippoaa.G5
set_option maxRecDepth 100000
open Go.RowKit
set_option linter.unusedVariables false

theorem i64_and1 (n : Int) : bits .and .i64 n 1 = n % 2 := by
  have h1 : (BitVec.ofInt 64 1).toNat = 2 ^ 1 - 1 := by decide
  have key : (BitVec.ofInt 64 n &&& BitVec.ofInt 64 1).toNat = (n % ((2 ^ 64 : Nat) : Int)).toNat % 2 ^ 1 := by
    rw [BitVec.toNat_and, BitVec.toNat_ofInt, h1, Nat.and_two_pow_sub_one_eq_mod]
  show IntKind.i64.wrap ((BitVec.ofInt 64 n &&& BitVec.ofInt 64 1).toNat : Nat) = n % 2
  rw [key, IntKind.wrap_i64]
  omega
theorem i64_xor16 (a b : Nat) (ha : a < 65536) (hb : b < 65536) : bits .xor .i64 (a : Int) (b : Int) = ((a ^^^ b : Nat) : Int) := by
  have hx : a ^^^ b < 2 ^ 16 := Nat.xor_lt_two_pow (by omega) (by omega)
  have ea : (BitVec.ofInt 64 (a : Int)).toNat = a := by rw [BitVec.toNat_ofInt]; omega
  have eb : (BitVec.ofInt 64 (b : Int)).toNat = b := by rw [BitVec.toNat_ofInt]; omega
  show IntKind.i64.wrap ((BitVec.ofInt 64 (a : Int) ^^^ BitVec.ofInt 64 (b : Int)).toNat : Nat) = _
  rw [BitVec.toNat_xor, ea, eb, IntKind.wrap_i64]
  omega
theorem bxr16 (x y : BitVec 16) : bits .xor .i64 (x.toNat : Int) (y.toNat : Int) = ((x ^^^ y).toNat : Int) := by
  rw [BitVec.toNat_xor]
  exact i64_xor16 _ _ x.isLt y.isLt
/-- The test of a bit. -/
theorem bit_test {n : Nat} (x : BitVec n) (k : Nat) : (((x.toNat : Int) / 2 ^ k) % 2 == 1) = x.getLsbD k := by
  rw [BitVec.getLsbD, Nat.testBit_eq_decide_div_mod_eq]
  rcases Nat.decEq (x.toNat / 2 ^ k % 2) 1 with h | h
  · rw [decide_eq_false h, beq_eq_false_iff_ne]
    intro e
    apply h
    have : ((x.toNat / 2 ^ k % 2 : Nat) : Int) = 1 := by
      rw [Int.natCast_emod, Int.natCast_ediv, Int.natCast_pow]
      exact e
    omega
  · rw [decide_eq_true h, beq_iff_eq]
    have : ((x.toNat / 2 ^ k % 2 : Nat) : Int) = 1 := by omega
    rw [Int.natCast_emod, Int.natCast_ediv, Int.natCast_pow] at this
    exact this
/-- The term that a round of the first loop adds. -/
theorem up_term (a : R) (k : Nat) (hk : k < 8) : ((a.setWidth 16 <<< k : BitVec 16).toNat : Int) = (a.toNat : Int) * 2 ^ k := by
  have ha := a.isLt
  have hp : 2 ^ k ≤ 2 ^ 7 := Nat.pow_le_pow_right (by decide) (by omega)
  have h2 : a.toNat * 2 ^ k ≤ 255 * 128 := Nat.mul_le_mul (by omega) hp
  rw [BitVec.toNat_shiftLeft, Nat.shiftLeft_eq, BitVec.toNat_setWidth, Nat.mod_eq_of_lt (show a.toNat < 2 ^ 16 by omega), Nat.mod_eq_of_lt (by omega), Int.natCast_mul, Int.natCast_pow]
  rfl
theorem dn_term (j : Nat) (hj : j < 7) : ((285#16 <<< (6 - j) : BitVec 16).toNat : Int) = 285 * 2 ^ (6 - j) := by
  have : ∀ j, j < 7 → ((285#16 <<< (6 - j) : BitVec 16).toNat : Int) = 285 * 2 ^ (6 - j) := by decide
  exact this j hj
end Go.Proofs.Ytcfoclmkhippoaa.G5
