/- Plain facts for layer 2: what the library's functions give (strconv.Itoa, Atoi, ParseInt, strings.IndexByte, CutPrefix), in the words of the readers. No program is named here. -/
import Derived.Test.YtjmnjcjpcmonjaaDoorN2Ref6
import Derived.Lib.ParseIntBTie
import Derived.Lib.ItoaNum
import Derived.Lib.Bytealg
import Derived.Lib.Strings
namespace Go.Proofs.YtjmnjcjpcmonjaaDoor.N2
set_option linter.unusedVariables false

/-! ### digits -/
theorem decDigits_dig : ∀ u : Nat, Lib.decDigits u = dig u := by
  intro u
  induction u using Nat.strongRecOn with
  | ind u ih =>
    rw [Lib.decDigits]
    by_cases h : u < 10
    · rw [dif_pos h, dig_small u h]
    · rw [dif_neg h, dig_step u h, ih (u / 10) (by omega)]
theorem itoa_decI (n : Int) : Lib.itoa n = decI n := by
  unfold Lib.itoa decI
  by_cases h : n < 0
  · rw [if_pos h, if_pos h, decDigits_dig]
  · rw [if_neg h, if_neg h, decDigits_dig]
    congr 1
    omega

/-! ### the value of digits, whole -/
def dvS (n : Nat) (c : UInt8) : Nat := n * 10 + (c.toNat - 48)
def dvF (a : Nat) (l : List UInt8) : Nat := l.foldl dvS a
def dval (l : List UInt8) : Nat := dvF 0 l
theorem dvF_ge : ∀ (l : List UInt8) (a : Nat), a ≤ dvF a l
  | [], a => Nat.le_refl _
  | c :: l, a => by
    have := dvF_ge l (dvS a c)
    unfold dvS at this
    show a ≤ dvF (dvS a c) l
    unfold dvS
    omega
theorem dc_fold : ∀ (l : List UInt8) (a : Nat), l.foldl dcS (min a top) = min (dvF a l) top
  | [], a => rfl
  | c :: l, a => by
    show l.foldl dcS (dcS (min a top) c) = min (dvF (dvS a c) l) top
    rw [← dc_fold l (dvS a c)]
    congr 1
    unfold dcS dvS top
    omega
theorem dcv_dval (l : List UInt8) : dcv l = min (dval l) top := by
  have := dc_fold l 0
  rw [Nat.zero_min] at this
  exact this
theorem dg_of_all {c : UInt8} {l : List UInt8} (h : (c :: l).all isDg = true) : (48 ≤ c.toNat ∧ c.toNat ≤ 57) ∧ l.all isDg = true := by
  simp only [List.all_cons, Bool.and_eq_true] at h
  have h1 := h.1
  unfold isDg at h1
  simp only [Bool.and_eq_true, decide_eq_true_eq] at h1
  exact ⟨h1, h.2⟩
theorem dcok_all {l : List UInt8} (h : dcok l = true) : l ≠ [] ∧ lead l = false ∧ l.all isDg = true := by
  unfold dcok at h
  simp only [Bool.and_eq_true, Bool.not_eq_true'] at h
  refine ⟨?_, ?_, h.2⟩
  · intro e
    rw [e] at h
    simp at h
  · exact h.1.2
theorem dval_zero {l : List UInt8} (h : dcok l = true) (h0 : dval l = 0) : l = [48] := by
  obtain ⟨h1, h2, h3⟩ := dcok_all h
  match l, h1 with
  | c :: r, _ =>
    have hd := (dg_of_all h3).1
    have hge := dvF_ge r (dvS 0 c)
    have e : dvF (dvS 0 c) r = 0 := h0
    have hc : c.toNat = 48 := by
      unfold dvS at hge e
      omega
    have hc : c = 48 := UInt8.toNat_inj.1 hc
    subst hc
    match r with
    | [] => rfl
    | d :: r => simp [lead] at h2
theorem dcv_zero {l : List UInt8} (h : dcok l = true) : dcv l = 0 ↔ l = [48] := by
  constructor
  · intro e
    rw [dcv_dval] at e
    apply dval_zero h
    unfold top at e
    omega
  · intro e
    rw [e]
    rfl

/-! ### the library's parsers at digits -/
theorem parseM (M : Nat) (hM : M ≤ 18446744073709551615) : ∀ (l : List UInt8) (a : Nat), l.all isDg = true → Lib.parseUintM M a l = .ok (dvF a l) ∨ (Lib.parseUintM M a l = .range ∧ M < dvF a l)
  | [], a, _ => .inl rfl
  | c :: l, a, h => by
    obtain ⟨hd, hl⟩ := dg_of_all h
    unfold Lib.parseUintM
    rw [if_pos hd]
    have hge := dvF_ge l (dvS a c)
    have hge2 : a * 10 + (c.toNat - 48) ≤ dvF (dvS a c) l := hge
    show _ ∨ (_ ∧ M < dvF (dvS a c) l)
    by_cases h1 : 1844674407370955162 ≤ a
    · rw [if_pos h1]
      exact .inr ⟨rfl, by omega⟩
    · rw [if_neg h1]
      by_cases h2 : M < a * 10 + (c.toNat - 48)
      · rw [if_pos h2]
        exact .inr ⟨rfl, by omega⟩
      · rw [if_neg h2]
        exact parseM M hM l (dvS a c) hl
theorem parseU {B M : Nat} (hB : 2 ^ B - 1 = M) (hM : M ≤ 18446744073709551615) {l : List UInt8} (h : dcok l = true) : Lib.parseUintB B l = .ok (dval l) ∨ (Lib.parseUintB B l = .range ∧ M < dval l) := by
  obtain ⟨h1, _, h3⟩ := dcok_all h
  unfold Lib.parseUintB
  rw [if_neg h1, hB]
  exact parseM M hM l 0 h3
theorem parse_nat {B M H : Nat} (hB : 2 ^ B - 1 = M) (hH : 2 ^ (B - 1) = H) (hM : M ≤ 18446744073709551615) (hHM : H ≤ M) {l : List UInt8} (h : dcok l = true) :
    (Lib.parseIntB B l = .ok (dval l : Int) ∧ dval l < H) ∨ (Lib.parseIntB B l = .range ∧ H ≤ dval l) := by
  obtain ⟨h1, _, h3⟩ := dcok_all h
  have hu := parseU hB hM h
  match l, h1, hu with
  | c :: r, _, hu =>
    have hd := (dg_of_all h3).1
    unfold Lib.parseIntB
    simp only
    rw [if_neg (by omega), hH]
    rcases hu with hu | ⟨hu, hlt⟩
    · rw [hu]
      simp only
      by_cases hg : H ≤ dval (c :: r)
      · rw [if_pos ⟨by omega, hg⟩]
        exact .inr ⟨rfl, hg⟩
      · rw [if_neg (by omega), if_neg (by omega), if_neg (by omega)]
        exact .inl ⟨rfl, by omega⟩
    · rw [hu]
      exact .inr ⟨rfl, by omega⟩
theorem parse_neg {B M H : Nat} (hB : 2 ^ B - 1 = M) (hH : 2 ^ (B - 1) = H) (hM : M ≤ 18446744073709551615) (hHM : H ≤ M) {l : List UInt8} (h : dcok l = true) :
    (Lib.parseIntB B (45 :: l) = .ok (-(dval l : Int)) ∧ dval l ≤ H) ∨ (Lib.parseIntB B (45 :: l) = .range ∧ H < dval l) := by
  have hu := parseU hB hM h
  have h45 : (45 : UInt8).toNat = 45 := rfl
  unfold Lib.parseIntB
  simp only
  rw [if_pos (.inr h45), hH]
  rcases hu with hu | ⟨hu, hlt⟩
  · rw [hu]
    simp only
    rw [if_neg (by rintro ⟨h, _⟩; exact h h45)]
    by_cases hg : H < dval l
    · rw [if_pos ⟨h45, hg⟩]
      exact .inr ⟨rfl, hg⟩
    · rw [if_neg (by rintro ⟨_, h⟩; exact hg h), if_pos h45]
      exact .inl ⟨rfl, by omega⟩
  · rw [hu]
    exact .inr ⟨rfl, by omega⟩
theorem atoi_nat {l : List UInt8} (h : dcok l = true) : (Lib.atoiAll l = .ok (dval l : Int) ∧ dval l < 9223372036854775808) ∨ (Lib.atoiAll l = .range ∧ 9223372036854775808 ≤ dval l) := by
  have := parse_nat (B := 64) (M := 18446744073709551615) (H := 9223372036854775808) (by decide) (by decide) (by decide) (by decide) h
  rw [Lib.parseIntB_64] at this
  exact this
theorem pint_nat {l : List UInt8} (h : dcok l = true) : (Lib.parseIntB 32 l = .ok (dval l : Int) ∧ dval l < 2147483648) ∨ (Lib.parseIntB 32 l = .range ∧ 2147483648 ≤ dval l) :=
  parse_nat (B := 32) (M := 4294967295) (H := 2147483648) (by decide) (by decide) (by decide) (by decide) h
theorem pint_neg {l : List UInt8} (h : dcok l = true) : (Lib.parseIntB 32 (45 :: l) = .ok (-(dval l : Int)) ∧ dval l ≤ 2147483648) ∨ (Lib.parseIntB 32 (45 :: l) = .range ∧ 2147483648 < dval l) :=
  parse_neg (B := 32) (M := 4294967295) (H := 2147483648) (by decide) (by decide) (by decide) (by decide) h

/-! ### the index of a byte -/
theorem index_find (c : UInt8) : ∀ l : List UInt8, Lib.indexByte l c = (l.findIdx? (· == c)).elim (-1) (fun j : Nat => (j : Int))
  | [] => rfl
  | b :: l => by
    unfold Lib.indexByte
    rw [List.findIdx?_cons, index_find c l]
    rcases hb : b == c with _ | _
    · rcases hf : l.findIdx? (· == c) with _ | j
      · simp
      · simp only [Bool.false_eq_true, if_false, Option.map_some]
        show (if ((j : Int) == -1) = true then (-1 : Int) else (j : Int) + 1) = ((j + 1 : Nat) : Int)
        have hj : ((j : Int) == -1) = false := beq_eq_false_iff_ne.2 (by omega)
        rw [hj, if_neg (by decide)]
        omega
    · simp
/-- The index from k on: none in both, or both at one place. -/
theorem index_pos (l : List UInt8) (k : Nat) (c : UInt8) : (Lib.indexByte (l.drop k) c = -1 ∧ posI l k c = -1) ∨ ∃ j : Nat, Lib.indexByte (l.drop k) c = (j : Int) ∧ posI l k c = ((k + j : Nat) : Int) := by
  rw [index_find]
  unfold posI
  rcases (l.drop k).findIdx? (· == c) with _ | j
  · exact .inl ⟨rfl, rfl⟩
  · exact .inr ⟨j, rfl, rfl⟩
theorem byte_back (c : UInt8) : ((c.toNat : Int)).toNat.toUInt8 = c := by
  rw [Int.toNat_natCast]
  exact UInt8.ofNat_toNat

/-! ### what is before the first byte c -/
def fld (l : List UInt8) (a : Int) (c : UInt8) : List UInt8 × Int × Int :=
  if a < 0 ∨ (l.length : Int) < a then ([], 0, 1) else
  if posI l a.toNat c < 0 then ([], 0, 4) else ((l.drop a.toNat).take ((posI l a.toNat c).toNat - a.toNat), posI l a.toNat c + 1, 0)
theorem fld_arg {l : List UInt8} {a : Int} {c : UInt8} (h : a < 0 ∨ (l.length : Int) < a) : fld l a c = ([], 0, 1) := by unfold fld; rw [if_pos h]
theorem fld_short {l : List UInt8} {a : Nat} {c : UInt8} (h : a ≤ l.length) (h1 : posI l a c = -1) : fld l (a : Int) c = ([], 0, 4) := by
  unfold fld
  rw [if_neg (by omega), if_pos (by rw [Int.toNat_natCast, h1]; decide)]
theorem fld_at {l : List UInt8} {a j : Nat} {c : UInt8} (h : a ≤ l.length) (h1 : posI l a c = ((a + j : Nat) : Int)) : fld l (a : Int) c = ((l.drop a).take j, ((a + j : Nat) : Int) + 1, 0) := by
  unfold fld
  rw [if_neg (by omega), Int.toNat_natCast, h1, if_neg (by omega), Int.toNat_natCast, Nat.add_sub_cancel_left]
end Go.Proofs.YtjmnjcjpcmonjaaDoor.N2
