/- Plain facts for layer 3 (crc32): the register's step is linear and one to one; products modulo the code's polynomial are powers of the step. No program is named here. -/
import Derived.Calls
namespace Go.Proofs.Ytnafcicllcmbbaa.K3
set_option linter.unusedVariables false

abbrev R := BitVec 32
def poly : R := 0x04C11DB7#32
def ones : R := 0xFFFFFFFF#32
/-- One bit. -/
def stp (x : R) : R := if x.msb then (x <<< 1) ^^^ poly else x <<< 1
theorem stp_zero : stp 0 = 0 := by decide
theorem stp_xor (x y : R) : stp (x ^^^ y) = stp x ^^^ stp y := by
  unfold stp
  rw [BitVec.msb_xor, BitVec.shiftLeft_xor_distrib]
  rcases hx : x.msb with _ | _ <;> rcases hy : y.msb with _ | _
  · simp
  · simp [BitVec.xor_assoc]
  · simp only [Bool.xor_false, if_true, Bool.false_eq_true, if_false]
    rw [BitVec.xor_assoc, BitVec.xor_assoc, BitVec.xor_comm (y <<< 1)]
  · simp only [Bool.xor_self, if_true, Bool.false_eq_true, if_false]
    rw [BitVec.xor_comm (y <<< 1) poly, ← BitVec.xor_assoc, BitVec.xor_assoc (x <<< 1) poly poly, BitVec.xor_self, BitVec.xor_zero]
theorem stp_inj0 {x : R} (h : stp x = 0) : x = 0 := by
  unfold stp at h
  rcases hx : x.msb with _ | _
  · rw [hx, if_neg (by decide)] at h
    apply BitVec.eq_of_toNat_eq
    have h2 := congrArg BitVec.toNat h
    rw [BitVec.toNat_shiftLeft, Nat.shiftLeft_eq] at h2
    have hm : x.toNat < 2147483648 := by
      rw [BitVec.msb_eq_decide] at hx
      simpa using hx
    simp at h2 ⊢
    omega
  · rw [hx, if_pos rfl] at h
    have h2 := congrArg (fun z : R => z.getLsbD 0) h
    simp [poly] at h2

/-- n bits. -/
def it : Nat → R → R
  | 0, x => x
  | n + 1, x => stp (it n x)
theorem it_add (m : Nat) : ∀ (n : Nat) (x : R), it (m + n) x = it n (it m x)
  | 0, x => rfl
  | n + 1, x => congrArg stp (it_add m n x)
theorem it_comm (m n : Nat) (x : R) : it m (it n x) = it n (it m x) := by rw [← it_add, ← it_add, Nat.add_comm]
theorem it_stp (n : Nat) (x : R) : it n (stp x) = stp (it n x) := it_comm n 1 x
theorem it_xor : ∀ (n : Nat) (x y : R), it n (x ^^^ y) = it n x ^^^ it n y
  | 0, x, y => rfl
  | n + 1, x, y => by
    show stp (it n (x ^^^ y)) = _
    rw [it_xor n x y, stp_xor]
    rfl
theorem it_zero : ∀ n : Nat, it n 0 = 0
  | 0 => rfl
  | n + 1 => by
    show stp (it n 0) = 0
    rw [it_zero n, stp_zero]
theorem it_inj0 : ∀ (n : Nat) {x : R}, it n x = 0 → x = 0
  | 0, x, h => h
  | n + 1, x, h => it_inj0 n (stp_inj0 h)
theorem xor_eq_zero {x y : R} (h : x ^^^ y = 0) : x = y := by
  have := congrArg (· ^^^ y) h
  simpa [BitVec.xor_assoc] using this
theorem it_inj (n : Nat) {x y : R} (h : it n x = it n y) : x = y := by
  apply xor_eq_zero
  apply it_inj0 n
  rw [it_xor, h, BitVec.xor_self]
  rfl

/-! ### two linear maps that agree at the bits agree -/
def low (n : Nat) (x : R) : R := x &&& (BitVec.ofNat 32 (2 ^ n - 1))
def bit (k : Nat) : R := 1#32 <<< k
theorem low_succ (x : R) (n : Nat) (h : n < 32) : low (n + 1) x = low n x ^^^ (if x.getLsbD n then bit n else 0) := by
  apply BitVec.eq_of_getLsbD_eq
  intro i hi
  unfold low bit
  have h1 : ∀ m, m ≤ 32 → (BitVec.ofNat 32 (2 ^ m - 1)).getLsbD i = decide (i < m) := by
    intro m hm
    rw [BitVec.getLsbD_ofNat, Nat.testBit_two_pow_sub_one]
    simp [hi]
  rw [BitVec.getLsbD_and, h1 _ (by omega), BitVec.getLsbD_xor, BitVec.getLsbD_and, h1 _ (by omega)]
  rcases hx : x.getLsbD n with _ | _
  · by_cases e : i = n
    · subst e
      simp [hx]
    · have : decide (i < n + 1) = decide (i < n) := by
        rw [decide_eq_decide]
        omega
      rw [this]
      simp
  · simp only [if_true, BitVec.getLsbD_shiftLeft]
    by_cases e : i = n
    · subst e
      simp [hx, hi]
    · by_cases e2 : i < n
      · simp [e2, Nat.lt_succ_of_lt e2, hi]
      · have h3 : ¬ i < n + 1 := by omega
        have h4 : i - n ≠ 0 := by omega
        have h5 : (1#32).getLsbD (i - n) = false := by
          rw [BitVec.getLsbD_one]
          simp [h4]
        simp [e2, h3, h5]
theorem low_all (x : R) : low 32 x = x := by
  unfold low
  show x &&& (BitVec.ofNat 32 (2 ^ 32 - 1)) = x
  rw [show (BitVec.ofNat 32 (2 ^ 32 - 1)) = BitVec.allOnes 32 by decide]
  exact BitVec.and_allOnes
theorem low_none (x : R) : low 0 x = 0 := by
  unfold low
  simp
theorem lin_ext {f g : R → R} (hf : ∀ x y, f (x ^^^ y) = f x ^^^ f y) (hg : ∀ x y, g (x ^^^ y) = g x ^^^ g y) (h : ∀ k, k < 32 → f (bit k) = g (bit k)) (x : R) : f x = g x := by
  have f0 : f 0 = 0 := by
    have := hf 0 0
    rw [BitVec.xor_self, BitVec.xor_self] at this
    exact this
  have g0 : g 0 = 0 := by
    have := hg 0 0
    rw [BitVec.xor_self, BitVec.xor_self] at this
    exact this
  have step : ∀ n, n ≤ 32 → f (low n x) = g (low n x) := by
    intro n
    induction n with
    | zero => intro _; rw [low_none, f0, g0]
    | succ n ih =>
      intro hn
      rw [low_succ x n (by omega), hf, hg, ih (by omega)]
      congr 1
      split
      · exact h n (by omega)
      · rw [f0, g0]
  have := step 32 (Nat.le_refl _)
  rwa [low_all] at this

/-! ### the product, by Horner from the highest bit -/
def hor (a b : R) : Nat → R
  | 0 => 0
  | j + 1 => if b.getLsbD (31 - j) then stp (hor a b j) ^^^ a else stp (hor a b j)
def tms (a b : R) : R := hor a b 32
theorem hor_a (b : R) (x y : R) : ∀ j, hor (x ^^^ y) b j = hor x b j ^^^ hor y b j
  | 0 => by simp [hor]
  | j + 1 => by
    unfold hor
    rw [hor_a b x y j, stp_xor]
    split
    · rw [BitVec.xor_assoc, BitVec.xor_assoc]
      congr 1
      rw [← BitVec.xor_assoc, ← BitVec.xor_assoc, BitVec.xor_comm (stp (hor y b j)) x]
    · rfl
theorem hor_b (a : R) (x y : R) : ∀ j, hor a (x ^^^ y) j = hor a x j ^^^ hor a y j
  | 0 => by simp [hor]
  | j + 1 => by
    unfold hor
    rw [hor_b a x y j, stp_xor, BitVec.getLsbD_xor]
    rcases x.getLsbD (31 - j) with _ | _ <;> rcases y.getLsbD (31 - j) with _ | _
    · simp
    · simp [BitVec.xor_assoc]
    · simp only [Bool.xor_false, if_true, Bool.false_eq_true, if_false]
      rw [BitVec.xor_assoc, BitVec.xor_assoc, BitVec.xor_comm a]
    · simp only [Bool.xor_self, if_true, Bool.false_eq_true, if_false]
      rw [BitVec.xor_comm (stp (hor a y j)) a, ← BitVec.xor_assoc, BitVec.xor_assoc _ a a, BitVec.xor_self, BitVec.xor_zero]
theorem hor_it (b : R) (a : R) (n : Nat) : ∀ j, hor (it n a) b j = it n (hor a b j)
  | 0 => (it_zero n).symm
  | j + 1 => by
    unfold hor
    rw [hor_it b a n j, ← it_stp]
    split
    · rw [it_xor]
    · rfl
theorem bit_get (k i : Nat) (hi : i < 32) : (bit k).getLsbD i = decide (i = k) := by
  unfold bit
  rw [BitVec.getLsbD_shiftLeft, BitVec.getLsbD_one]
  by_cases h : i < k
  · have : ¬ i = k := by omega
    simp [h, this]
  · by_cases e : i = k
    · subst e; simp [hi]
    · have : ¬ i - k = 0 := by omega
      simp [h, e, this]
theorem hor_bit (a : R) (k : Nat) (hk : k < 32) : ∀ j, j ≤ 32 → hor a (bit k) j = if 31 - k < j then it (j - (32 - k)) a else 0
  | 0, _ => by rw [if_neg (by omega)]; rfl
  | j + 1, hj => by
    unfold hor
    rw [hor_bit a k hk j (by omega), bit_get k _ (by omega)]
    by_cases e : 31 - j = k
    · have e2 : ¬ (31 - k < j) := by omega
      have e3 : 31 - k < j + 1 := by omega
      have e4 : j + 1 - (32 - k) = 0 := by omega
      rw [if_pos (decide_eq_true e), if_neg e2, if_pos e3, e4, stp_zero]
      exact BitVec.zero_xor
    · rw [if_neg (by simpa using e)]
      by_cases h : 31 - k < j
      · have h2 : 31 - k < j + 1 := by omega
        have h3 : j + 1 - (32 - k) = (j - (32 - k)) + 1 := by omega
        rw [if_pos h, if_pos h2, h3]
        rfl
      · have h2 : ¬ (31 - k < j + 1) := by omega
        rw [if_neg h, if_neg h2, stp_zero]
theorem tms_a (a a' b : R) : tms (a ^^^ a') b = tms a b ^^^ tms a' b := hor_a b a a' 32
theorem tms_b (a b b' : R) : tms a (b ^^^ b') = tms a b ^^^ tms a b' := hor_b a b b' 32
theorem tms_it (a b : R) (n : Nat) : tms (it n a) b = it n (tms a b) := hor_it b a n 32
theorem tms_bit (a : R) (k : Nat) (hk : k < 32) : tms a (bit k) = it k a := by
  have := hor_bit a k hk 32 (Nat.le_refl _)
  rw [if_pos (by omega), show 32 - (32 - k) = k by omega] at this
  exact this
theorem it_bit (k : Nat) (hk : k < 32) : it k 1 = bit k := by
  have : ∀ k, k < 32 → it k 1 = bit k := by decide
  exact this k hk
theorem stp_bit31 : stp (bit 31) = poly := by decide
theorem one_tms (b : R) : tms 1 b = b :=
  lin_ext (f := fun b => tms 1 b) (g := fun b => b) (tms_b 1) (fun _ _ => rfl) (fun k hk => by show tms 1 (bit k) = bit k; rw [tms_bit 1 k hk, it_bit k hk]) b
theorem tms_poly (a : R) : tms a poly = it 32 a :=
  lin_ext (f := fun a => tms a poly) (g := fun a => it 32 a) (fun x y => tms_a x y poly) (it_xor 32) (fun k hk => by
    show tms (bit k) poly = it 32 (bit k)
    rw [← it_bit k hk, tms_it, one_tms, it_comm, ← stp_bit31, ← it_bit 31 (by decide)]
    rfl) a
theorem tms_stp (a b : R) : tms a (stp b) = stp (tms a b) :=
  lin_ext (f := fun b => tms a (stp b)) (g := fun b => stp (tms a b)) (fun x y => by show tms a (stp (x ^^^ y)) = _; rw [stp_xor, tms_b]) (fun x y => by show stp (tms a (x ^^^ y)) = _; rw [tms_b, stp_xor]) (fun k hk => by
    show tms a (stp (bit k)) = stp (tms a (bit k))
    rw [tms_bit a k hk]
    by_cases h : k = 31
    · subst h
      rw [stp_bit31, tms_poly]
      rfl
    · have : stp (bit k) = bit (k + 1) := by
        rw [← it_bit k hk, ← it_bit (k + 1) (by omega)]
        rfl
      rw [this, tms_bit a (k + 1) (by omega)]
      rfl) b
/-- THE PRODUCT WITH A POWER: n bits. -/
theorem tms_pow (a : R) : ∀ n : Nat, tms a (it n 1) = it n a
  | 0 => by
    show tms a 1 = a
    have := tms_bit a 0 (by decide)
    rwa [show bit 0 = 1 by decide] at this
  | n + 1 => by
    show tms a (stp (it n 1)) = stp (it n a)
    rw [tms_stp, tms_pow a n]

/-! ### bytes -/
def up8 (x : R) : R := it 8 x
def byR (c : UInt8) : R := BitVec.ofNat 32 c.toNat <<< 24
def ub (x : R) (c : UInt8) : R := it 8 (x ^^^ byR c)
def upd (x : R) (l : List UInt8) : R := l.foldl ub x
def sumL (l : List UInt8) : R := upd ones l
theorem upd_append (x : R) (l m : List UInt8) : upd x (l ++ m) = upd (upd x l) m := by simp [upd]
theorem upd_snoc (x : R) (l : List UInt8) (c : UInt8) : upd x (l ++ [c]) = ub (upd x l) c := by simp [upd]
/-- The difference of the registers goes on as if noughts came. -/
theorem upd_diff : ∀ (l : List UInt8) (x y : R), upd x l ^^^ upd y l = it (8 * l.length) (x ^^^ y)
  | [], x, y => rfl
  | c :: l, x, y => by
    show upd (ub x c) l ^^^ upd (ub y c) l = _
    rw [upd_diff l, List.length_cons, show 8 * (l.length + 1) = 8 + 8 * l.length by omega, it_add]
    congr 1
    unfold ub
    rw [← it_xor]
    congr 1
    rw [BitVec.xor_comm y, BitVec.xor_assoc, ← BitVec.xor_assoc (byR c), BitVec.xor_self, BitVec.zero_xor]
theorem upd_inj {l : List UInt8} {x y : R} (h : upd x l = upd y l) : x = y := by
  apply xor_eq_zero
  apply it_inj0 (8 * l.length)
  rw [← upd_diff, h, BitVec.xor_self]
  rfl
def xz (l m : List UInt8) : List UInt8 := List.zipWith (· ^^^ ·) l m
theorem byR_xor (a b : UInt8) : byR (a ^^^ b) = byR a ^^^ byR b := by
  unfold byR
  rw [← BitVec.shiftLeft_xor_distrib]
  congr 1
  apply BitVec.eq_of_toNat_eq
  have ha := a.toNat_lt
  have hb := b.toNat_lt
  have hx : a.toNat ^^^ b.toNat < 2 ^ 32 := Nat.xor_lt_two_pow (by omega) (by omega)
  rw [BitVec.toNat_xor, BitVec.toNat_ofNat, BitVec.toNat_ofNat, BitVec.toNat_ofNat, UInt8.toNat_xor, Nat.mod_eq_of_lt hx, Nat.mod_eq_of_lt (by omega), Nat.mod_eq_of_lt (by omega)]
theorem xor4 (a b c d : R) : (a ^^^ b) ^^^ (c ^^^ d) = (a ^^^ c) ^^^ (b ^^^ d) := by
  rw [BitVec.xor_assoc, ← BitVec.xor_assoc b, BitVec.xor_comm b c, BitVec.xor_assoc c, ← BitVec.xor_assoc a c]
/-- Two strings of one length, added byte by byte. -/
theorem upd_xor : ∀ (l m : List UInt8) (x y : R), l.length = m.length → upd x l ^^^ upd y m = upd (x ^^^ y) (xz l m)
  | [], [], x, y, _ => rfl
  | [], _ :: _, x, y, h => by simp at h
  | _ :: _, [], x, y, h => by simp at h
  | c :: l, d :: m, x, y, h => by
    show upd (ub x c) l ^^^ upd (ub y d) m = upd (ub (x ^^^ y) (c ^^^ d)) (xz l m)
    rw [upd_xor l m _ _ (by simpa using h)]
    congr 1
    unfold ub
    rw [← it_xor, byR_xor, xor4]
end Go.Proofs.Ytnafcicllcmbbaa.K3
