/- Numerals of one length stand in the order of their values. No program is named here. -/
import Derived.Test.YtpnnkdgoaeibbaaDoorL19More
namespace Go.Proofs.YtpnnkdgoaeibbaaDoor.L19
open Mem
set_option linter.unusedVariables false
set_option linter.unusedSimpArgs false

theorem nval_from (l : List UInt8) : ∀ a, l.foldl (fun a c => 10 * a + (c.toNat - 48)) a = a * 10 ^ l.length + nval l := by
  induction l with
  | nil => intro a; simp [nval]
  | cons c r ih =>
    intro a
    unfold nval
    rw [List.foldl_cons, List.foldl_cons, ih, ih (10 * 0 + _), List.length_cons, Nat.pow_succ, Nat.add_mul, show 10 * 0 + (c.toNat - 48) = c.toNat - 48 by omega]
    have : 10 * a * 10 ^ r.length = a * (10 ^ r.length * 10) := by rw [Nat.mul_comm 10 a, Nat.mul_assoc, Nat.mul_comm 10]
    omega
theorem nval_cons (c : UInt8) (r : List UInt8) : nval (c :: r) = (c.toNat - 48) * 10 ^ r.length + nval r := by
  have := nval_from r (10 * 0 + (c.toNat - 48))
  rw [show 10 * 0 + (c.toNat - 48) = c.toNat - 48 by omega] at this
  rw [← this]
  unfold nval
  rw [List.foldl_cons, show 10 * 0 + (c.toNat - 48) = c.toNat - 48 by omega]
theorem dg_range {c : UInt8} (h : isDg c = true) : 48 ≤ c.toNat ∧ c.toNat ≤ 57 := by simpa [isDg] using h
theorem nval_lt (l : List UInt8) (h : ∀ c ∈ l, isDg c = true) : nval l < 10 ^ l.length := by
  induction l with
  | nil => simp [nval]
  | cons c r ih =>
    have h1 := dg_range (h c List.mem_cons_self)
    have h2 := ih (fun d hd => h d (List.mem_cons_of_mem _ hd))
    rw [nval_cons, List.length_cons, Nat.pow_succ]
    have : (c.toNat - 48) * 10 ^ r.length ≤ 9 * 10 ^ r.length := Nat.mul_le_mul_right _ (by omega)
    omega
theorem less_iff : ∀ (a b : List UInt8), a.length = b.length → (∀ c ∈ a, isDg c = true) → (∀ c ∈ b, isDg c = true) → Op.bytesLess a b = decide (nval a < nval b) ∧ (a == b) = decide (nval a = nval b)
  | [], [], _, _, _ => by simp [Op.bytesLess]
  | [], _ :: _, h, _, _ => by simp at h
  | _ :: _, [], h, _, _ => by simp at h
  | c :: r, d :: q, h, ha, hb => by
    have hl : r.length = q.length := by simpa using h
    obtain ⟨i1, i2⟩ := less_iff r q hl (fun x hx => ha x (List.mem_cons_of_mem _ hx)) (fun x hx => hb x (List.mem_cons_of_mem _ hx))
    have h1 := dg_range (ha c List.mem_cons_self)
    have h2 := dg_range (hb d List.mem_cons_self)
    have r1 := nval_lt r (fun x hx => ha x (List.mem_cons_of_mem _ hx))
    have r2 := nval_lt q (fun x hx => hb x (List.mem_cons_of_mem _ hx))
    rw [hl] at r1
    have e1 : nval (c :: r) = (c.toNat - 48) * 10 ^ q.length + nval r := by rw [nval_cons, hl]
    have e2 := nval_cons d q
    obtain ⟨P, hP⟩ : ∃ P, 10 ^ q.length = P := ⟨_, rfl⟩
    rw [hP] at e1 e2 r1 r2
    rcases Nat.lt_trichotomy c.toNat d.toNat with hlt | heq | hgt
    · have : (c.toNat - 48) * P + P ≤ (d.toNat - 48) * P := by
        rw [← Nat.succ_mul]; exact Nat.mul_le_mul_right _ (by omega)
      have hcd : c < d := hlt
      constructor
      · rw [Op.bytesLess, decide_eq_true hcd, Bool.true_or]
        exact (decide_eq_true (by omega)).symm
      · have : (c :: r == d :: q) = false := by
          rw [beq_eq_false_iff_ne]; intro e; injection e with e _; subst e; omega
        rw [this]
        exact (decide_eq_false (by omega)).symm
    · have hcd : c = d := UInt8.toNat_inj.1 heq
      subst hcd
      have hnl : ¬ c < c := Nat.lt_irrefl _
      constructor
      · rw [Op.bytesLess, decide_eq_false hnl, Bool.false_or, beq_self_eq_true, Bool.true_and, i1]
        exact decide_eq_decide.2 (by omega)
      · have : (c :: r == c :: q) = (r == q) := by
          rw [Bool.eq_iff_iff, beq_iff_eq, beq_iff_eq]; simp
        rw [this, i2]
        exact decide_eq_decide.2 (by omega)
    · have : (d.toNat - 48) * P + P ≤ (c.toNat - 48) * P := by
        rw [← Nat.succ_mul]; exact Nat.mul_le_mul_right _ (by omega)
      have hnl : ¬ c < d := fun h => by have : c.toNat < d.toNat := h; omega
      have hne : c ≠ d := fun e => by subst e; omega
      constructor
      · rw [Op.bytesLess, decide_eq_false hnl, Bool.false_or, beq_eq_false_iff_ne.2 hne, Bool.false_and]
        exact (decide_eq_false (by omega)).symm
      · have : (c :: r == d :: q) = false := by
          rw [beq_eq_false_iff_ne]; intro e; injection e with e _; exact hne e
        rw [this]
        exact (decide_eq_false (by omega)).symm
def lrg : List UInt8 := [52, 50, 57, 52, 57, 54, 55, 50, 57, 53]
theorem lrg_val : nval lrg = 4294967295 := by decide +kernel
theorem lrg_dg : ∀ c ∈ lrg, isDg c = true := by decide
/-- Too large: by the length, or by the order of the texts. -/
theorem big_len {l : List UInt8} (h1 : ∀ c ∈ l, isDg c = true) (h2 : l ≠ []) (h3 : l.head? = some 48 → l = [48]) (h : l.length ≠ 10) : decide (4294967295 < nval l) = decide (10 < l.length) := by
  refine decide_eq_decide.2 ⟨fun h4 => ?_, fun h4 => ?_⟩
  · have := nval_lt l h1
    rcases Nat.lt_or_ge l.length 10 with h5 | h5
    · have : 10 ^ l.length ≤ 10 ^ 9 := Nat.pow_le_pow_right (by decide) (by omega)
      omega
    · omega
  · cases l with
    | nil => exact absurd rfl h2
    | cons c r =>
      have hc := dg_range (h1 c List.mem_cons_self)
      have hne : c ≠ 48 := fun e => by
        subst e
        have := h3 rfl
        rw [this] at h4
        simp at h4
      have hne : c.toNat ≠ 48 := fun e => hne (UInt8.toNat_inj.1 e)
      rw [nval_cons]
      rw [List.length_cons] at h4
      have a1 : 10 ^ 10 ≤ 10 ^ r.length := Nat.pow_le_pow_right (by decide) (by omega)
      have a2 : 1 * 10 ^ r.length ≤ (c.toNat - 48) * 10 ^ r.length := Nat.mul_le_mul_right _ (by omega)
      omega
theorem big_lex {l : List UInt8} (h1 : ∀ c ∈ l, isDg c = true) (h : l.length = 10) : (!(Op.bytesLess l lrg || l == lrg)) = decide (4294967295 < nval l) := by
  obtain ⟨i1, i2⟩ := less_iff l lrg h h1 lrg_dg
  rw [i1, i2, lrg_val, Bool.eq_iff_iff]
  simp only [Bool.not_eq_true', Bool.or_eq_false_iff, decide_eq_false_iff_not, decide_eq_true_eq]
  omega
end Go.Proofs.YtpnnkdgoaeibbaaDoor.L19
