/- Plain facts for layer 15: the polynomial through points by its weights (Lagrange), and that it is the only one. No program is named here. -/
import Derived.Test.YtcfoclmkhippoaaG6Math
namespace Go.Proofs.Ytcfoclmkhippoaa.E15
open Go.Proofs.Ytcfoclmkhippoaa.G5
open Go.Proofs.Ytcfoclmkhippoaa.G6
set_option linter.unusedVariables false
set_option linter.unusedSimpArgs false

/-- The product of the first i factors of the weight of point k at x. -/
def wgt (xl : List R) (k : Nat) (x : R) : Nat → R
  | 0 => 1
  | i + 1 => if i = k then wgt xl k x i else tms (wgt xl k x i) (tms (x ^^^ xl.getD i 0) (iv (xl.getD k 0 ^^^ xl.getD i 0)))
/-- The sum of the first k weighted values at x. -/
def lag (xl yl : List R) (x : R) : Nat → R
  | 0 => 0
  | k + 1 => lag xl yl x k ^^^ tms (wgt xl k x xl.length) (yl.getD k 0)
theorem wgt_skip (xl : List R) (k : Nat) (x : R) : wgt xl k x (k + 1) = wgt xl k x k := by
  show (if k = k then _ else _) = _
  rw [if_pos rfl]
theorem wgt_step {xl : List R} {k i : Nat} (h : i ≠ k) (x : R) : wgt xl k x (i + 1) = tms (wgt xl k x i) (tms (x ^^^ xl.getD i 0) (iv (xl.getD k 0 ^^^ xl.getD i 0))) := by
  show (if i = k then _ else _) = _
  rw [if_neg h]
theorem getD_ne {xl : List R} (hn : xl.Nodup) {i j : Nat} (hi : i < xl.length) (hj : j < xl.length) (h : i ≠ j) : xl.getD i 0 ^^^ xl.getD j 0 ≠ 0 := fun e => by
  have e2 := xor_eq_zero e
  rw [List.getD_eq_getElem?_getD, List.getD_eq_getElem?_getD, List.getElem?_eq_getElem hi, List.getElem?_eq_getElem hj] at e2
  simp only [Option.getD_some] at e2
  exact h ((List.getElem_inj hn).1 e2)
/-- A weight is 1 at its own point. -/
theorem wgt_self {xl : List R} (hn : xl.Nodup) {k : Nat} (hk : k < xl.length) : ∀ i, i ≤ xl.length → wgt xl k (xl.getD k 0) i = 1
  | 0, _ => rfl
  | i + 1, hi => by
    have ih := wgt_self hn hk i (by omega)
    by_cases e : i = k
    · subst e
      rw [wgt_skip, ih]
    · rw [wgt_step e, ih, tms_iv (getD_ne hn hk (by omega) (fun h => e h.symm)), tms_one]
/-- A weight is 0 at another point. -/
theorem wgt_other {xl : List R} {k j : Nat} (hjk : j ≠ k) : ∀ i, j < i → wgt xl k (xl.getD j 0) i = 0
  | 0, h => by omega
  | i + 1, h => by
    by_cases e : i = j
    · subst e
      rw [wgt_step hjk, G6.xs, zero_tms, tms_zero]
    · have ih := wgt_other (xl := xl) hjk i (by omega)
      by_cases e2 : i = k
      · subst e2
        rw [wgt_skip, ih]
      · rw [wgt_step e2, ih, zero_tms]
theorem ml_short : ∀ (p q : List R), p ≠ [] → q ≠ [] → (ml p q).length + 1 ≤ p.length + q.length
  | [], q, h, _ => absurd rfl h
  | [a], q, _, hq => by
    have : 0 < q.length := List.length_pos_iff.2 hq
    rw [show ml [a] q = ad (sc a q) [0] from rfl, ad_len, sc_len]
    simp
    omega
  | a :: b :: p, q, _, hq => by
    have ih := ml_short (b :: p) q (by simp) hq
    have : 0 < q.length := List.length_pos_iff.2 hq
    rw [show ml (a :: b :: p) q = ad (sc a q) (0 :: ml (b :: p) q) from rfl, ad_len, sc_len]
    simp at *
    omega
theorem ml_some {p q : List R} (hp : p ≠ []) (hq : q ≠ []) : ml p q ≠ [] := by
  cases p with
  | nil => exact absurd rfl hp
  | cons a p =>
    intro e
    have := congrArg List.length e
    rw [show ml (a :: p) q = ad (sc a q) (0 :: ml p q) from rfl, ad_len] at this
    simp at this
/-- A weight is a polynomial. -/
theorem wgt_poly (xl : List R) (k : Nat) : ∀ i, ∃ p : List R, p ≠ [] ∧ p.length + (if k < i then 1 else 0) ≤ i + 1 ∧ ∀ x, ev p x = wgt xl k x i
  | 0 => ⟨[1], by simp, by simp, fun x => ev_one 1 x⟩
  | i + 1 => by
    obtain ⟨p, h0, h1, h2⟩ := wgt_poly xl k i
    by_cases e : i = k
    · subst e
      refine ⟨p, h0, ?_, fun x => by rw [h2, wgt_skip]⟩
      rw [if_neg (by omega)] at h1
      rw [if_pos (by omega)]
      omega
    · refine ⟨ml p (sc (iv (xl.getD k 0 ^^^ xl.getD i 0)) [xl.getD i 0, 1]), ml_some h0 (by simp [sc]), ?_, fun x => ?_⟩
      · have := ml_short p (sc (iv (xl.getD k 0 ^^^ xl.getD i 0)) [xl.getD i 0, 1]) h0 (by simp [sc])
        rw [sc_len, show ([xl.getD i 0, 1] : List R).length = 2 from rfl] at this
        by_cases hki : k < i
        · rw [if_pos hki] at h1
          rw [if_pos (by omega)]
          omega
        · rw [if_neg hki] at h1
          rw [if_neg (by omega)]
          omega
      · rw [ev_ml, h2, ev_sc, wgt_step e, ev_cons, ev_one, tms_one, BitVec.xor_comm (xl.getD i 0) x, tms_comm (iv _) _]
/-- The sum is a polynomial of degree less than the number of points. -/
theorem lag_poly (xl yl : List R) : ∀ k, k ≤ xl.length → ∃ p : List R, p.length ≤ xl.length ∧ ∀ x, ev p x = lag xl yl x k
  | 0, _ => ⟨[], by simp, fun x => rfl⟩
  | k + 1, hk => by
    obtain ⟨p, h1, h2⟩ := lag_poly xl yl k (by omega)
    obtain ⟨q, _, g1, g2⟩ := wgt_poly xl k xl.length
    rw [if_pos (by omega)] at g1
    refine ⟨ad p (sc (yl.getD k 0) q), by rw [ad_len, sc_len]; omega, fun x => ?_⟩
    rw [ev_ad, h2, ev_sc, g2, tms_comm (yl.getD k 0)]
    rfl
/-- At a point it has the point's value. -/
theorem lag_upto {xl yl : List R} (hn : xl.Nodup) {j : Nat} (hj : j < xl.length) : ∀ k, k ≤ xl.length → lag xl yl (xl.getD j 0) k = if j < k then yl.getD j 0 else 0
  | 0, _ => rfl
  | k + 1, hk => by
    have ih := lag_upto (yl := yl) hn hj k (by omega)
    show lag xl yl _ k ^^^ tms (wgt xl k _ xl.length) (yl.getD k 0) = _
    by_cases e : j = k
    · subst e
      rw [ih, if_neg (by omega), if_pos (by omega), wgt_self hn hj _ (Nat.le_refl _), one_tms, zx]
    · rw [ih, wgt_other e _ hj, zero_tms, xz]
      by_cases h : j < k
      · rw [if_pos h, if_pos (by omega)]
      · rw [if_neg h, if_neg (by omega)]
theorem lag_at {xl yl : List R} (hn : xl.Nodup) {j : Nat} (hj : j < xl.length) : lag xl yl (xl.getD j 0) xl.length = yl.getD j 0 := by rw [lag_upto hn hj _ (Nat.le_refl _), if_pos hj]
/-- Two polynomials that agree at as many points as they have coefficients agree everywhere. -/
theorem agree {xl p q : List R} (hn : xl.Nodup) (hp : p.length ≤ xl.length) (hq : q.length ≤ xl.length) (h : ∀ x ∈ xl, ev p x = ev q x) (x : R) : ev p x = ev q x := by
  have hz := few_roots xl hn (ad p q) (by rw [ad_len]; omega) fun y hy => by rw [ev_ad, h y hy, G6.xs]
  have h1 := ev_trim (ad p q) x
  rw [trim_zeros _ hz, ev_nil, ev_ad] at h1
  exact xor_eq_zero h1.symm
/-- The sum is the value of any polynomial of low degree that has these values. -/
theorem lag_eq {xl yl p : List R} (hn : xl.Nodup) (hp : p.length ≤ xl.length) (h : ∀ j, j < xl.length → ev p (xl.getD j 0) = yl.getD j 0) (x : R) : lag xl yl x xl.length = ev p x := by
  obtain ⟨q, h1, h2⟩ := lag_poly xl yl xl.length (Nat.le_refl _)
  rw [← h2]
  refine agree hn h1 hp (fun y hy => ?_) x
  obtain ⟨j, hj, rfl⟩ := List.mem_iff_getElem.1 hy
  have e : xl.getD j 0 = xl[j] := by simp [List.getD_eq_getElem?_getD, hj]
  rw [← e, h2, lag_at hn hj, h j hj]
/-- Other points of the same polynomial give the same sum: recovery. -/
theorem lag_move {xl yl zl vl : List R} (hn : xl.Nodup) (hm : zl.Nodup) (hl : zl.length = xl.length) (h : ∀ j, j < zl.length → vl.getD j 0 = lag xl yl (zl.getD j 0) xl.length) (x : R) : lag zl vl x zl.length = lag xl yl x xl.length := by
  obtain ⟨q, h1, h2⟩ := lag_poly xl yl xl.length (Nat.le_refl _)
  rw [lag_eq hm (Nat.le_trans h1 (Nat.le_of_eq hl.symm)) (fun j hj => by rw [h2, h j hj]) x, h2]
/-- The sum is linear. -/
theorem lag_xor (xl yl zl vl : List R) (x : R) (h : ∀ j, vl.getD j 0 = yl.getD j 0 ^^^ zl.getD j 0) : ∀ k, lag xl vl x k = lag xl yl x k ^^^ lag xl zl x k
  | 0 => by show (0 : R) = 0 ^^^ 0; decide
  | k + 1 => by
    show lag xl vl x k ^^^ _ = (lag xl yl x k ^^^ _) ^^^ (lag xl zl x k ^^^ _)
    rw [lag_xor xl yl zl vl x h k, h, tms_b]
    simp only [BitVec.xor_assoc]
    rw [xac (tms _ (yl.getD k 0)) (lag xl zl x k)]
/-- What the reference's search finds: the only x with x times b = a. -/
theorem over_only {a b x : R} (hb : b ≠ 0) : tms x b = a ↔ x = tms a (iv b) := by
  constructor
  · intro h
    rw [← h, tms_assoc, tms_iv hb, tms_one]
  · intro h
    rw [h, tms_assoc, tms_comm (iv b) b, tms_iv hb, tms_one]
end Go.Proofs.Ytcfoclmkhippoaa.E15
