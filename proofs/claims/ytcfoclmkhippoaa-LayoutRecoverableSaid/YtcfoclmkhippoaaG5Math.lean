/- Plain facts for layer 5 (gf256): the field of 256 elements: products modulo the polynomial, by linear maps that agree at the bits. No program is named here. -/
import Derived.Calls
namespace Go.Proofs.Ytcfoclmkhippoaa.G5
set_option maxRecDepth 100000
set_option linter.unusedVariables false

abbrev R := BitVec 8
def poly : R := 0x1D#8
def ones : R := 0xFF#8
/-- One bit. -/
def stp (x : R) : R := if x.msb then (x <<< 1) ^^^ poly else x <<< 1
theorem stp_zero : stp 0 = 0 := by decide
theorem stp_xor (x y : R) : stp (x ^^^ y) = stp x ^^^ stp y := by
  unfold stp
  rw [BitVec.msb_xor, BitVec.shiftLeft_xor_distrib]
  rcases hx : x.msb with _ | _ <;> rcases hy : y.msb with _ | _
  · simp
  · simp [BitVec.xor_assoc]
  · simp only [Bool.xor_false, if_true, Bool.false_eq_true, if_false]
    rw [BitVec.xor_assoc, BitVec.xor_assoc, BitVec.xor_comm (y <<< 1)]
  · simp only [Bool.xor_self, if_true, Bool.false_eq_true, if_false]
    rw [BitVec.xor_comm (y <<< 1) poly, ← BitVec.xor_assoc, BitVec.xor_assoc (x <<< 1) poly poly, BitVec.xor_self, BitVec.xor_zero]
theorem stp_inj0 {x : R} (h : stp x = 0) : x = 0 := by
  unfold stp at h
  rcases hx : x.msb with _ | _
  · rw [hx, if_neg (by decide)] at h
    apply BitVec.eq_of_toNat_eq
    have h2 := congrArg BitVec.toNat h
    rw [BitVec.toNat_shiftLeft, Nat.shiftLeft_eq] at h2
    have hm : x.toNat < 128 := by
      rw [BitVec.msb_eq_decide] at hx
      simpa using hx
    simp at h2 ⊢
    omega
  · rw [hx, if_pos rfl] at h
    have h2 := congrArg (fun z : R => z.getLsbD 0) h
    simp [poly] at h2

/-- n bits. -/
def it : Nat → R → R
  | 0, x => x
  | n + 1, x => stp (it n x)
theorem it_add (m : Nat) : ∀ (n : Nat) (x : R), it (m + n) x = it n (it m x)
  | 0, x => rfl
  | n + 1, x => congrArg stp (it_add m n x)
theorem it_comm (m n : Nat) (x : R) : it m (it n x) = it n (it m x) := by rw [← it_add, ← it_add, Nat.add_comm]
theorem it_stp (n : Nat) (x : R) : it n (stp x) = stp (it n x) := it_comm n 1 x
theorem it_xor : ∀ (n : Nat) (x y : R), it n (x ^^^ y) = it n x ^^^ it n y
  | 0, x, y => rfl
  | n + 1, x, y => by
    show stp (it n (x ^^^ y)) = _
    rw [it_xor n x y, stp_xor]
    rfl
theorem it_zero : ∀ n : Nat, it n 0 = 0
  | 0 => rfl
  | n + 1 => by
    show stp (it n 0) = 0
    rw [it_zero n, stp_zero]
theorem it_inj0 : ∀ (n : Nat) {x : R}, it n x = 0 → x = 0
  | 0, x, h => h
  | n + 1, x, h => it_inj0 n (stp_inj0 h)
theorem xor_eq_zero {x y : R} (h : x ^^^ y = 0) : x = y := by
  have := congrArg (· ^^^ y) h
  simpa [BitVec.xor_assoc] using this
theorem it_inj (n : Nat) {x y : R} (h : it n x = it n y) : x = y := by
  apply xor_eq_zero
  apply it_inj0 n
  rw [it_xor, h, BitVec.xor_self]
  rfl

/-! ### two linear maps that agree at the bits agree -/
def low (n : Nat) (x : R) : R := x &&& (BitVec.ofNat 8 (2 ^ n - 1))
def bit (k : Nat) : R := 1#8 <<< k
theorem low_succ (x : R) (n : Nat) (h : n < 8) : low (n + 1) x = low n x ^^^ (if x.getLsbD n then bit n else 0) := by
  apply BitVec.eq_of_getLsbD_eq
  intro i hi
  unfold low bit
  have h1 : ∀ m, m ≤ 8 → (BitVec.ofNat 8 (2 ^ m - 1)).getLsbD i = decide (i < m) := by
    intro m hm
    rw [BitVec.getLsbD_ofNat, Nat.testBit_two_pow_sub_one]
    simp [hi]
  rw [BitVec.getLsbD_and, h1 _ (by omega), BitVec.getLsbD_xor, BitVec.getLsbD_and, h1 _ (by omega)]
  rcases hx : x.getLsbD n with _ | _
  · by_cases e : i = n
    · subst e
      simp [hx]
    · have : decide (i < n + 1) = decide (i < n) := by
        rw [decide_eq_decide]
        omega
      rw [this]
      simp
  · simp only [if_true, BitVec.getLsbD_shiftLeft]
    by_cases e : i = n
    · subst e
      simp [hx, hi]
    · by_cases e2 : i < n
      · simp [e2, Nat.lt_succ_of_lt e2, hi]
      · have h3 : ¬ i < n + 1 := by omega
        have h4 : i - n ≠ 0 := by omega
        have h5 : (1#8).getLsbD (i - n) = false := by
          rw [BitVec.getLsbD_one]
          simp [h4]
        simp [e2, h3, h5]
theorem low_all (x : R) : low 8 x = x := by
  unfold low
  show x &&& (BitVec.ofNat 8 (2 ^ 8 - 1)) = x
  rw [show (BitVec.ofNat 8 (2 ^ 8 - 1)) = BitVec.allOnes 8 by decide]
  exact BitVec.and_allOnes
theorem low_none (x : R) : low 0 x = 0 := by
  unfold low
  simp
theorem lin_ext {f g : R → R} (hf : ∀ x y, f (x ^^^ y) = f x ^^^ f y) (hg : ∀ x y, g (x ^^^ y) = g x ^^^ g y) (h : ∀ k, k < 8 → f (bit k) = g (bit k)) (x : R) : f x = g x := by
  have f0 : f 0 = 0 := by
    have := hf 0 0
    rw [BitVec.xor_self, BitVec.xor_self] at this
    exact this
  have g0 : g 0 = 0 := by
    have := hg 0 0
    rw [BitVec.xor_self, BitVec.xor_self] at this
    exact this
  have step : ∀ n, n ≤ 8 → f (low n x) = g (low n x) := by
    intro n
    induction n with
    | zero => intro _; rw [low_none, f0, g0]
    | succ n ih =>
      intro hn
      rw [low_succ x n (by omega), hf, hg, ih (by omega)]
      congr 1
      split
      · exact h n (by omega)
      · rw [f0, g0]
  have := step 8 (Nat.le_refl _)
  rwa [low_all] at this

/-! ### the product, by Horner from the highest bit -/
def hor (a b : R) : Nat → R
  | 0 => 0
  | j + 1 => if b.getLsbD (7 - j) then stp (hor a b j) ^^^ a else stp (hor a b j)
def tms (a b : R) : R := hor a b 8
theorem hor_a (b : R) (x y : R) : ∀ j, hor (x ^^^ y) b j = hor x b j ^^^ hor y b j
  | 0 => by simp [hor]
  | j + 1 => by
    unfold hor
    rw [hor_a b x y j, stp_xor]
    split
    · rw [BitVec.xor_assoc, BitVec.xor_assoc]
      congr 1
      rw [← BitVec.xor_assoc, ← BitVec.xor_assoc, BitVec.xor_comm (stp (hor y b j)) x]
    · rfl
theorem hor_b (a : R) (x y : R) : ∀ j, hor a (x ^^^ y) j = hor a x j ^^^ hor a y j
  | 0 => by simp [hor]
  | j + 1 => by
    unfold hor
    rw [hor_b a x y j, stp_xor, BitVec.getLsbD_xor]
    rcases x.getLsbD (7 - j) with _ | _ <;> rcases y.getLsbD (7 - j) with _ | _
    · simp
    · simp [BitVec.xor_assoc]
    · simp only [Bool.xor_false, if_true, Bool.false_eq_true, if_false]
      rw [BitVec.xor_assoc, BitVec.xor_assoc, BitVec.xor_comm a]
    · simp only [Bool.xor_self, if_true, Bool.false_eq_true, if_false]
      rw [BitVec.xor_comm (stp (hor a y j)) a, ← BitVec.xor_assoc, BitVec.xor_assoc _ a a, BitVec.xor_self, BitVec.xor_zero]
theorem hor_it (b : R) (a : R) (n : Nat) : ∀ j, hor (it n a) b j = it n (hor a b j)
  | 0 => (it_zero n).symm
  | j + 1 => by
    unfold hor
    rw [hor_it b a n j, ← it_stp]
    split
    · rw [it_xor]
    · rfl
theorem bit_get (k i : Nat) (hi : i < 8) : (bit k).getLsbD i = decide (i = k) := by
  unfold bit
  rw [BitVec.getLsbD_shiftLeft, BitVec.getLsbD_one]
  by_cases h : i < k
  · have : ¬ i = k := by omega
    simp [h, this]
  · by_cases e : i = k
    · subst e; simp [hi]
    · have : ¬ i - k = 0 := by omega
      simp [h, e, this]
theorem hor_bit (a : R) (k : Nat) (hk : k < 8) : ∀ j, j ≤ 8 → hor a (bit k) j = if 7 - k < j then it (j - (8 - k)) a else 0
  | 0, _ => by rw [if_neg (by omega)]; rfl
  | j + 1, hj => by
    unfold hor
    rw [hor_bit a k hk j (by omega), bit_get k _ (by omega)]
    by_cases e : 7 - j = k
    · have e2 : ¬ (7 - k < j) := by omega
      have e3 : 7 - k < j + 1 := by omega
      have e4 : j + 1 - (8 - k) = 0 := by omega
      rw [if_pos (decide_eq_true e), if_neg e2, if_pos e3, e4, stp_zero]
      exact BitVec.zero_xor
    · rw [if_neg (by simpa using e)]
      by_cases h : 7 - k < j
      · have h2 : 7 - k < j + 1 := by omega
        have h3 : j + 1 - (8 - k) = (j - (8 - k)) + 1 := by omega
        rw [if_pos h, if_pos h2, h3]
        rfl
      · have h2 : ¬ (7 - k < j + 1) := by omega
        rw [if_neg h, if_neg h2, stp_zero]
theorem tms_a (a a' b : R) : tms (a ^^^ a') b = tms a b ^^^ tms a' b := hor_a b a a' 8
theorem tms_b (a b b' : R) : tms a (b ^^^ b') = tms a b ^^^ tms a b' := hor_b a b b' 8
theorem tms_it (a b : R) (n : Nat) : tms (it n a) b = it n (tms a b) := hor_it b a n 8
theorem tms_bit (a : R) (k : Nat) (hk : k < 8) : tms a (bit k) = it k a := by
  have := hor_bit a k hk 8 (Nat.le_refl _)
  rw [if_pos (by omega), show 8 - (8 - k) = k by omega] at this
  exact this
theorem it_bit (k : Nat) (hk : k < 8) : it k 1 = bit k := by
  have : ∀ k, k < 8 → it k 1 = bit k := by decide
  exact this k hk
theorem stp_bit7 : stp (bit 7) = poly := by decide
theorem one_tms (b : R) : tms 1 b = b :=
  lin_ext (f := fun b => tms 1 b) (g := fun b => b) (tms_b 1) (fun _ _ => rfl) (fun k hk => by show tms 1 (bit k) = bit k; rw [tms_bit 1 k hk, it_bit k hk]) b
theorem tms_poly (a : R) : tms a poly = it 8 a :=
  lin_ext (f := fun a => tms a poly) (g := fun a => it 8 a) (fun x y => tms_a x y poly) (it_xor 8) (fun k hk => by
    show tms (bit k) poly = it 8 (bit k)
    rw [← it_bit k hk, tms_it, one_tms, it_comm, ← stp_bit7, ← it_bit 7 (by decide)]
    rfl) a
theorem tms_stp (a b : R) : tms a (stp b) = stp (tms a b) :=
  lin_ext (f := fun b => tms a (stp b)) (g := fun b => stp (tms a b)) (fun x y => by show tms a (stp (x ^^^ y)) = _; rw [stp_xor, tms_b]) (fun x y => by show stp (tms a (x ^^^ y)) = _; rw [tms_b, stp_xor]) (fun k hk => by
    show tms a (stp (bit k)) = stp (tms a (bit k))
    rw [tms_bit a k hk]
    by_cases h : k = 7
    · subst h
      rw [stp_bit7, tms_poly]
      rfl
    · have : stp (bit k) = bit (k + 1) := by
        rw [← it_bit k hk, ← it_bit (k + 1) (by omega)]
        rfl
      rw [this, tms_bit a (k + 1) (by omega)]
      rfl) b
/-- THE PRODUCT WITH A POWER: n bits. -/
theorem tms_pow (a : R) : ∀ n : Nat, tms a (it n 1) = it n a
  | 0 => by
    show tms a 1 = a
    have := tms_bit a 0 (by decide)
    rwa [show bit 0 = 1 by decide] at this
  | n + 1 => by
    show tms a (stp (it n 1)) = stp (it n a)
    rw [tms_stp, tms_pow a n]

/-! ### the field's laws -/
theorem tms_comm (a b : R) : tms a b = tms b a :=
  lin_ext (f := fun a => tms a b) (g := fun a => tms b a) (fun x y => tms_a x y b) (fun x y => tms_b b x y) (fun k hk => by
    show tms (bit k) b = tms b (bit k)
    rw [tms_bit b k hk, ← it_bit k hk, tms_it, one_tms]) a
theorem tms_assoc (a b c : R) : tms (tms a b) c = tms a (tms b c) :=
  lin_ext (f := fun a => tms (tms a b) c) (g := fun a => tms a (tms b c)) (fun x y => by show tms (tms (x ^^^ y) b) c = _; rw [tms_a, tms_a]) (fun x y => tms_a x y _) (fun k hk => by
    show tms (tms (bit k) b) c = tms (bit k) (tms b c)
    rw [← it_bit k hk, tms_it, one_tms, tms_it, tms_it, one_tms]) a
theorem tms_one (a : R) : tms a 1 = a := by rw [tms_comm, one_tms]
theorem tms_zero (a : R) : tms a 0 = 0 := by
  have := tms_b a 0 0
  rw [BitVec.xor_self, BitVec.xor_self] at this
  exact this
theorem zero_tms (a : R) : tms 0 a = 0 := by rw [tms_comm, tms_zero]

/-! ### the product as two loops: up, then the remainder -/
def up (a b : R) : Nat → BitVec 16
  | 0 => 0
  | k + 1 => if b.getLsbD k then up a b k ^^^ (a.setWidth 16 <<< k) else up a b k
def dn (p : BitVec 16) : Nat → BitVec 16
  | 0 => p
  | j + 1 => if (dn p j).getLsbD (14 - j) then dn p j ^^^ (285#16 <<< (6 - j)) else dn p j
def rm (a b : R) : R := (dn (up a b 8) 7).setWidth 8
theorem xor4 (a b c d : BitVec 16) : (a ^^^ b) ^^^ (c ^^^ d) = (a ^^^ c) ^^^ (b ^^^ d) := by
  rw [BitVec.xor_assoc, BitVec.xor_assoc]
  congr 1
  rw [← BitVec.xor_assoc, ← BitVec.xor_assoc, BitVec.xor_comm b c]
theorem up_a (b x y : R) : ∀ k, up (x ^^^ y) b k = up x b k ^^^ up y b k
  | 0 => by simp [up]
  | k + 1 => by
    unfold up
    rw [up_a b x y k, BitVec.setWidth_xor, BitVec.shiftLeft_xor_distrib]
    split
    · exact xor4 _ _ _ _
    · rfl
theorem up_b (a x y : R) : ∀ k, up a (x ^^^ y) k = up a x k ^^^ up a y k
  | 0 => by simp [up]
  | k + 1 => by
    unfold up
    rw [up_b a x y k, BitVec.getLsbD_xor]
    rcases x.getLsbD k with _ | _ <;> rcases y.getLsbD k with _ | _
    · simp
    · simp [BitVec.xor_assoc]
    · simp only [Bool.xor_false, if_true, Bool.false_eq_true, if_false]
      rw [BitVec.xor_assoc, BitVec.xor_assoc, BitVec.xor_comm (up a y k)]
    · simp only [Bool.xor_self, if_true, Bool.false_eq_true, if_false]
      rw [xor4, BitVec.xor_self, BitVec.xor_zero]
theorem dn_xor (x y : BitVec 16) : ∀ j, dn (x ^^^ y) j = dn x j ^^^ dn y j
  | 0 => rfl
  | j + 1 => by
    unfold dn
    rw [dn_xor x y j, BitVec.getLsbD_xor]
    rcases (dn x j).getLsbD (14 - j) with _ | _ <;> rcases (dn y j).getLsbD (14 - j) with _ | _
    · simp
    · simp [BitVec.xor_assoc]
    · simp only [Bool.xor_false, if_true, Bool.false_eq_true, if_false]
      rw [BitVec.xor_assoc, BitVec.xor_assoc, BitVec.xor_comm (dn y j)]
    · simp only [Bool.xor_self, if_true, Bool.false_eq_true, if_false]
      rw [xor4, BitVec.xor_self, BitVec.xor_zero]
theorem rm_a (x y b : R) : rm (x ^^^ y) b = rm x b ^^^ rm y b := by unfold rm; rw [up_a, dn_xor, BitVec.setWidth_xor]
theorem rm_b (a x y : R) : rm a (x ^^^ y) = rm a x ^^^ rm a y := by unfold rm; rw [up_b, dn_xor, BitVec.setWidth_xor]
theorem rm_bits : ∀ j, j < 8 → ∀ k, k < 8 → rm (bit j) (bit k) = tms (bit j) (bit k) := by decide +kernel
/-- THE LOOPS ARE THE PRODUCT. -/
theorem rm_eq (a b : R) : rm a b = tms a b :=
  lin_ext (f := fun a => rm a b) (g := fun a => tms a b) (fun x y => rm_a x y b) (fun x y => tms_a x y b) (fun j hj =>
    lin_ext (f := fun b => rm (bit j) b) (g := fun b => tms (bit j) b) (fun x y => rm_b _ x y) (fun x y => tms_b _ x y) (fun k hk => rm_bits j hj k hk) b) a

/-! ### powers of the generator, inverses -/
def pw (a : R) : Nat → R
  | 0 => 1
  | n + 1 => tms (pw a n) a
theorem pw_add (a : R) (m : Nat) : ∀ n, pw a (m + n) = tms (pw a m) (pw a n)
  | 0 => (tms_one _).symm
  | n + 1 => by
    show tms (pw a (m + n)) a = tms (pw a m) (tms (pw a n) a)
    rw [pw_add a m n, tms_assoc]
/-- Every element but 0 is a power of the generator. -/
def lgN (a : R) : Nat → Nat
  | 0 => 255
  | f + 1 => if it (254 - f) 1 = a then 254 - f else lgN a f
def lg (a : R) : Nat := lgN a 255
theorem gen_all : ∀ a : Fin 256, a.val ≠ 0 → lg (BitVec.ofNat 8 a.val) < 255 ∧ it (lg (BitVec.ofNat 8 a.val)) 1 = BitVec.ofNat 8 a.val := by decide +kernel
theorem it_255 : it 255 1 = 1 := by decide +kernel
theorem lg_lt {a : R} (h : a ≠ 0) : lg a < 255 := by
  have := (gen_all ⟨a.toNat, a.isLt⟩ (fun h0 => h (BitVec.eq_of_toNat_eq h0))).1
  simpa using this
theorem it_lg {a : R} (h : a ≠ 0) : it (lg a) 1 = a := by
  have := (gen_all ⟨a.toNat, a.isLt⟩ (fun h0 => h (BitVec.eq_of_toNat_eq h0))).2
  simpa using this
/-- The inverse. -/
def iv (a : R) : R := if a = 0 then 0 else it (255 - lg a) 1
theorem tms_iv {a : R} (h : a ≠ 0) : tms a (iv a) = 1 := by
  have hl := lg_lt h
  unfold iv
  rw [if_neg h, tms_pow]
  have h2 := it_lg h
  obtain ⟨n, hn⟩ : ∃ n, lg a = n := ⟨_, rfl⟩
  rw [hn] at hl h2 ⊢
  rw [← h2, ← it_add, show n + (255 - n) = 255 by omega, it_255]
theorem tms_eq_zero {a b : R} (h : tms a b = 0) : a = 0 ∨ b = 0 := by
  by_cases ha : a = 0
  · exact .inl ha
  · refine .inr ?_
    have h2 : tms (iv a) (tms a b) = b := by rw [← tms_assoc, tms_comm (iv a) a, tms_iv ha, one_tms]
    rw [h, tms_zero] at h2
    exact h2.symm
end Go.Proofs.Ytcfoclmkhippoaa.G5
