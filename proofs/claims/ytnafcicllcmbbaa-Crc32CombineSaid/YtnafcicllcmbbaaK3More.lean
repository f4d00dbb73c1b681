/- Plain facts for layer 3 (crc32), second part: the bytes of a register, bursts, joined strings, products of lengths. No program is named here. -/
import Derived.Test.YtnafcicllcmbbaaK3Math
namespace Go.Proofs.Ytnafcicllcmbbaa.K3
set_option linter.unusedVariables false

/-! ### the bytes of a register -/
def nb (x : R) (k : Nat) : UInt8 := UInt8.ofBitVec ((x >>> k).setWidth 8)
theorem nb_toNat (x : R) (k : Nat) : (nb x k).toNat = x.toNat / 2 ^ k % 256 := by
  unfold nb
  show ((x >>> k).setWidth 8).toNat = _
  rw [BitVec.toNat_setWidth, BitVec.toNat_ushiftRight, Nat.shiftRight_eq_div_pow]
theorem nb_xor (x y : R) (k : Nat) : nb (x ^^^ y) k = nb x k ^^^ nb y k := by
  unfold nb
  rw [BitVec.ushiftRight_xor_distrib, BitVec.setWidth_xor]
  rfl
def byL (x : R) : List UInt8 := [nb x 24, nb x 16, nb x 8, nb x 0]
theorem byL_xor (x y : R) : byL (x ^^^ y) = xz (byL x) (byL y) := by
  unfold byL
  rw [nb_xor, nb_xor, nb_xor, nb_xor]
  rfl
theorem zero_xor_zero : (0 : R) ^^^ 0 = 0 := by decide
theorem xor0 (x : R) : x ^^^ 0 = x := BitVec.xor_zero
theorem zxor (x : R) : (0 : R) ^^^ x = x := BitVec.zero_xor
theorem upd0_byL (x : R) : upd 0 (byL x) = it 32 x :=
  lin_ext (f := fun x => upd 0 (byL x)) (g := fun x => it 32 x) (fun x y => by
    show upd 0 (byL (x ^^^ y)) = upd 0 (byL x) ^^^ upd 0 (byL y)
    rw [upd_xor (byL x) (byL y) 0 0 rfl, zero_xor_zero, byL_xor]) (it_xor 32) (by decide +kernel) x
theorem upd_self (x : R) : upd x (byL x) = 0 := by
  have h := upd_diff (byL x) x 0
  rw [upd0_byL, show 8 * (byL x).length = 32 from rfl, xor0] at h
  have h2 := congrArg (· ^^^ it 32 x) h
  rwa [BitVec.xor_assoc, BitVec.xor_self, BitVec.xor_zero] at h2
theorem residue (l : List UInt8) : sumL (l ++ byL (sumL l)) = 0 := by
  unfold sumL
  rw [upd_append]
  exact upd_self _

/-! ### bursts -/
def wd (v : R) (sh : Nat) : BitVec 64 := v.setWidth 64 <<< sh
def wb (z : BitVec 64) (k : Nat) : UInt8 := UInt8.ofBitVec ((z >>> k).setWidth 8)
theorem wb_toNat (z : BitVec 64) (k : Nat) : (wb z k).toNat = z.toNat / 2 ^ k % 256 := by
  unfold wb
  show ((z >>> k).setWidth 8).toNat = _
  rw [BitVec.toNat_setWidth, BitVec.toNat_ushiftRight, Nat.shiftRight_eq_div_pow]
theorem wb_xor (x y : BitVec 64) (k : Nat) : wb (x ^^^ y) k = wb x k ^^^ wb y k := by
  unfold wb
  rw [BitVec.ushiftRight_xor_distrib, BitVec.setWidth_xor]
  rfl
theorem wd_xor (x y : R) (sh : Nat) : wd (x ^^^ y) sh = wd x sh ^^^ wd y sh := by
  unfold wd
  rw [BitVec.setWidth_xor, BitVec.shiftLeft_xor_distrib]
theorem wd_toNat (v : R) (sh : Nat) (h : sh ≤ 8) : (wd v sh).toNat = v.toNat * 2 ^ sh := by
  unfold wd
  have hv := v.isLt
  have h2 : 2 ^ sh ≤ 256 := Nat.pow_le_pow_right (n := 2) (by decide) h
  rw [BitVec.toNat_shiftLeft, BitVec.toNat_setWidth, Nat.shiftLeft_eq, Nat.mod_eq_of_lt (by omega : v.toNat < 2 ^ 64), Nat.mod_eq_of_lt]
  calc v.toNat * 2 ^ sh ≤ v.toNat * 256 := Nat.mul_le_mul_left _ h2
    _ < 2 ^ 64 := by omega
def five (v : R) (sh : Nat) : List UInt8 := [wb (wd v sh) 32, wb (wd v sh) 24, wb (wd v sh) 16, wb (wd v sh) 8, wb (wd v sh) 0]
theorem five_xor (x y : R) (sh : Nat) : five (x ^^^ y) sh = xz (five x sh) (five y sh) := by
  unfold five
  rw [wd_xor, wb_xor, wb_xor, wb_xor, wb_xor, wb_xor]
  rfl
theorem upd0_five_bits : ∀ sh, sh < 9 → ∀ k, k < 32 → upd 0 (five (bit k) sh) = it (32 + sh) (bit k) := by decide +kernel
theorem upd0_five (sh : Nat) (hs : sh < 9) (v : R) : upd 0 (five v sh) = it (32 + sh) v :=
  lin_ext (f := fun v => upd 0 (five v sh)) (g := fun v => it (32 + sh) v) (fun x y => by
    show upd 0 (five (x ^^^ y) sh) = upd 0 (five x sh) ^^^ upd 0 (five y sh)
    rw [upd_xor (five x sh) (five y sh) 0 0 rfl, zero_xor_zero, five_xor]) (it_xor (32 + sh)) (fun k hk => upd0_five_bits sh hs k hk) v
/-- A change within the window changes the checksum. -/
theorem burst {p m q : List UInt8} {v : R} {sh : Nat} (hs : sh < 9) (hm : m.length = 5) (hv : v ≠ 0) : sumL (p ++ xz m (five v sh) ++ q) ≠ sumL (p ++ m ++ q) := by
  intro h
  unfold sumL at h
  rw [upd_append, upd_append, upd_append _ (p ++ m), upd_append] at h
  have h2 := upd_inj h
  have h3 := upd_xor m (five v sh) (upd ones p) 0 hm
  rw [xor0, h2, upd0_five sh hs] at h3
  have h4 := congrArg (upd (upd ones p) m ^^^ ·) h3
  rw [← BitVec.xor_assoc, BitVec.xor_self, BitVec.zero_xor] at h4
  exact hv (it_inj0 _ h4)

/-! ### joined strings -/
def comb (a b : R) (n : Int) : R := if n < 0 then 0 else b ^^^ it (8 * n.toNat) (a ^^^ ones)
theorem comb_sum (s t : List UInt8) : comb (sumL s) (sumL t) (t.length : Int) = sumL (s ++ t) := by
  unfold comb sumL
  rw [if_neg (by omega), Int.toNat_natCast, ← upd_diff, upd_append, BitVec.xor_comm, BitVec.xor_assoc, BitVec.xor_self, BitVec.xor_zero]
theorem comb_assoc (a b c : R) (n m : Nat) : comb (comb a b (n : Int)) c (m : Int) = comb a (comb b c (m : Int)) ((n : Int) + (m : Int)) := by
  unfold comb
  rw [if_neg (by omega), if_neg (by omega), if_neg (by omega), if_neg (by omega), Int.toNat_natCast, Int.toNat_natCast, show ((n : Int) + (m : Int)).toNat = n + m by omega]
  rw [show 8 * (n + m) = 8 * n + 8 * m by omega, it_add, BitVec.xor_assoc, BitVec.xor_assoc c, ← it_xor]
  rw [BitVec.xor_assoc b, BitVec.xor_comm (it (8 * n) (a ^^^ ones)) ones, ← BitVec.xor_assoc b]
theorem affine (s t u : List UInt8) (h1 : s.length = t.length) (h2 : t.length = u.length) : sumL s ^^^ sumL t ^^^ sumL u = sumL (xz (xz s t) u) := by
  unfold sumL
  rw [upd_xor s t _ _ h1, BitVec.xor_self, upd_xor (xz s t) u _ _ (by simp [xz]; omega), BitVec.zero_xor]
theorem byR_zero : byR 0 = 0 := by decide
theorem upd_zeros (x : R) : ∀ n : Nat, upd x (List.replicate n 0) = it (8 * n) x
  | 0 => rfl
  | n + 1 => by
    rw [List.replicate_succ]
    show upd (ub x 0) (List.replicate n 0) = _
    rw [upd_zeros _ n, show 8 * (n + 1) = 8 + 8 * n by omega, it_add]
    unfold ub
    rw [byR_zero, xor0]
theorem registers (x y : R) (l : List UInt8) : upd x l ^^^ upd y l = upd (x ^^^ y) (List.replicate l.length 0) := by rw [upd_diff, upd_zeros]
theorem upd_eq_iff (x y : R) (l : List UInt8) : upd x l = upd y l ↔ x = y := ⟨upd_inj, fun h => by rw [h]⟩

/-! ### the powers of the length -/
theorem it256 : it 8 1 = 256#32 := by decide
theorem pow_twice (i : Nat) : tms (it (8 * 2 ^ i) 1) (it (8 * 2 ^ i) 1) = it (8 * 2 ^ (i + 1)) 1 := by
  rw [tms_pow, ← it_add]
  congr 1
  rw [Nat.pow_succ]
  omega
theorem pow_take (x : R) (n i : Nat) (h : n / 2 ^ i % 2 = 1) : tms (it (8 * (n % 2 ^ i)) x) (it (8 * 2 ^ i) 1) = it (8 * (n % 2 ^ (i + 1))) x := by
  rw [tms_pow, ← it_add]
  congr 1
  rw [Nat.mod_pow_succ, h]
  omega
theorem pow_skip (x : R) (n i : Nat) (h : n / 2 ^ i % 2 = 0) : it (8 * (n % 2 ^ i)) x = it (8 * (n % 2 ^ (i + 1))) x := by
  congr 1
  rw [Nat.mod_pow_succ, h]
  omega
end Go.Proofs.Ytnafcicllcmbbaa.K3
