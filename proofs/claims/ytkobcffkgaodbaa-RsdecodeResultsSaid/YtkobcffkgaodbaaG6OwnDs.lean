/- Plain facts for the landed DivMod: the division's rows. -/
import Derived.Test.YtkobcffkgaodbaaG6At
namespace Go.Proofs.Ytkobcffkgaodbaa.G6
open Go.Proofs.Ytkobcffkgaodbaa.G5
open Go.RowKit Mem
set_option linter.unusedVariables false
set_option linter.unusedSimpArgs false

theorem trim_app0 (l : List R) : ∀ m, trim (l ++ List.replicate m 0#8) = trim l
  | 0 => by simp
  | m + 1 => by rw [List.replicate_succ', ← List.append_assoc, show (0#8 : R) = 0 from rfl, trim_snoc0]; exact trim_app0 l m
theorem trim_short {l : List R} {I : Nat} (h : ∀ j, I ≤ j → l.getD j 0 = 0) : (trim l).length ≤ I := by
  have e : l = l.take I ++ List.replicate (l.length - I) 0#8 := by
    by_cases hI : I ≤ l.length
    · refine eq_getD (by simp; omega) fun j hj => ?_
      rw [ad_zeros, getD_take]
      by_cases h1 : j < I
      · rw [if_pos h1]
      · rw [if_neg h1, h j (by omega)]
    · rw [List.take_of_length_le (by omega), show l.length - I = 0 by omega]
      simp
  rw [e, trim_app0]
  have := trim_len (l.take I)
  rw [List.length_take] at this
  omega

/-- The rows behind t rounds: the remainder so far, the quotient so far. -/
structure DS (p Q : List R) (n0 nq t : Nat) (r d : List R) : Prop where
  lr : r.length = n0
  ld : d.length = nq
  val : ∀ x, ev p x = tms (ev d x) (ev Q x) ^^^ ev r x
  zr : ∀ j, n0 ≤ j + t → r.getD j 0 = 0
  zd : ∀ j, j + t < nq → d.getD j 0 = 0
  tr : t = 0 → r.getD (n0 - 1) 0 ≠ 0
  td : 0 < t → d.getD (nq - 1) 0 ≠ 0

/-- The remainder within a round, j coefficients done. -/
def rj (r Q : List R) (a : Nat) (F : R) (j : Nat) : List R := ad r (List.replicate a 0#8 ++ sc F (Q.take j))
theorem sc_get (F : R) (l : List R) (j : Nat) : (sc F l).getD j 0 = tms F (l.getD j 0) := by
  by_cases h : j < l.length
  · simp [sc, List.getD_eq_getElem?_getD, List.getElem?_eq_getElem h]
  · rw [getD_far _ _ (by rw [sc_len]; omega), getD_far _ _ (by omega), tms_zero]
theorem rj_get (r Q : List R) (a : Nat) (F : R) (j m : Nat) : (rj r Q a F j).getD m 0 = r.getD m 0 ^^^ (if a ≤ m ∧ m < a + j then tms F (Q.getD (m - a) 0) else 0) := by
  unfold rj
  rw [ad_get]
  congr 1
  rw [getD_app, List.length_replicate, getD_zeros, sc_get, getD_take]
  by_cases h1 : m < a
  · rw [if_pos h1, if_neg (by omega)]
  · rw [if_neg h1]
    by_cases h2 : m < a + j
    · rw [if_pos (show m - a < j by omega), if_pos ⟨by omega, h2⟩]
    · rw [if_neg (show ¬ m - a < j by omega), if_neg (by omega), tms_zero]
theorem rj_len {r Q : List R} {a j n0 : Nat} {F : R} (hr : r.length = n0) (h : a + Q.length ≤ n0) : (rj r Q a F j).length = n0 := by
  unfold rj
  rw [ad_len, List.length_append, List.length_replicate, sc_len, List.length_take]
  omega
theorem rj_zero {r Q : List R} {a n0 : Nat} {F : R} (hr : r.length = n0) (h : a + Q.length ≤ n0) : rj r Q a F 0 = r :=
  eq_getD (by rw [rj_len hr h, hr]) fun j _ => by rw [rj_get, if_neg (by omega), xz]
theorem rj_step {r Q : List R} {a j n0 i : Nat} {F : R} (hr : r.length = n0) (h : a + Q.length ≤ n0) (hj : j < Q.length) (hi : i = a + j) :
    (rj r Q a F j).getD i 0 = r.getD i 0 ∧ (rj r Q a F j).set i (r.getD i 0 ^^^ tms F (Q.getD j 0)) = rj r Q a F (j + 1) := by
  refine ⟨by rw [rj_get, if_neg (by omega), xz], eq_getD (by rw [List.length_set, rj_len hr h, rj_len hr h]) fun m _ => ?_⟩
  rw [getD_set _ _ _ _ (by rw [rj_len hr h]; omega), rj_get, rj_get]
  by_cases e : m = i
  · rw [if_pos e, if_pos (by omega), e, show i - a = j by omega]
  · rw [if_neg e]
    congr 1
    by_cases e2 : a ≤ m ∧ m < a + j
    · rw [if_pos e2, if_pos (by omega)]
    · rw [if_neg e2, if_neg (by omega)]
theorem ev_rj (r Q : List R) (a : Nat) (F x : R) : ev (rj r Q a F Q.length) x = ev r x ^^^ tms (pw x a) (tms F (ev Q x)) := by
  unfold rj
  rw [List.take_length, ev_ad, show ev (List.replicate a 0#8 ++ sc F Q) x = tms (pw x a) (ev (sc F Q) x) from ev_shift a (sc F Q) x, ev_sc]

theorem DS.start {p q Q : List R} {n0 nq : Nat} (h0 : (trim p).length = n0) (hn : 0 < n0) : DS p Q n0 nq 0 (trim p) (List.replicate nq 0#8) := by
  refine ⟨h0, by simp, fun x => ?_, fun j hj => getD_far _ _ (by omega), fun j _ => getD_zeros _ _, fun _ => ?_, fun h => absurd h (Nat.lt_irrefl 0)⟩
  · rw [show ev (List.replicate nq 0#8) x = 0 from ev_zeros nq x, zero_tms, zx, ev_trim]
  · rcases trim_cases p with h | ⟨q, a, ha, h⟩
    · rw [h] at h0
      simp at h0
      omega
    · rw [h] at h0 ⊢
      have e : n0 - 1 = q.length := by simp at h0; omega
      rw [e, getD_last]
      exact ha
theorem DS.step {p Q r d : List R} {n0 nq t I a top : Nat} {X Y C F : R} (h : DS p Q n0 nq t r d) (hQ : Q.length = I + 1) (hn : nq + I = n0) (ha : a + t + 1 = nq) (htop : top = a + I)
    (hX : r.getD top 0 = X) (hY : Q.getD I 0 = Y) (hY0 : Y ≠ 0) (hC : iv Y = C) (hF : tms X C = F) : DS p Q n0 nq (t + 1) (rj r Q a F (I + 1)) (d.set a F) := by
  have hFY : tms F Y = X := by rw [← hF, ← hC, dv_all, tms_comm, tms_dv X hY0]
  have hal : a < d.length := by rw [h.ld]; omega
  have hda := h.zd a (by omega)
  refine ⟨rj_len h.lr (by omega), by rw [List.length_set]; exact h.ld, fun x => ?_, fun j hj => ?_, fun j hj => ?_, (fun e => by omega), fun _ => ?_⟩
  · rw [← hQ, ev_rj, ev_set x F d a hal, hda, zx, h.val x, tms_a, tms_assoc]
    simp only [BitVec.xor_assoc, BitVec.xor_comm, xac, xcan, xs, xz, zx]
  · rw [rj_get]
    by_cases e : j = top
    · rw [if_pos (by omega), e, hX, show top - a = I by omega, hY, hFY, xs]
    · rw [if_neg (by omega), xz]
      exact h.zr j (by omega)
  · rw [getD_set _ _ _ _ hal, if_neg (by omega)]
    exact h.zd j (by omega)
  · rw [getD_set _ _ _ _ hal]
    by_cases e : nq - 1 = a
    · rw [if_pos e]
      intro hF0
      have hX0 := h.tr (by omega)
      rw [show n0 - 1 = top by omega, hX, ← hFY, hF0, zero_tms] at hX0
      exact hX0 rfl
    · rw [if_neg e]
      exact h.td (by omega)
theorem DS.done {p q Q r d : List R} {n0 nq I : Nat} (h : DS p Q n0 nq nq r d) (hQ : Q.length = I + 1) (hn : nq + I = n0) (hq : 0 < nq) (hqQ : trim q = Q) (hp : n0 ≤ p.length) : Dvd p q d (trim r) := by
  refine ⟨?_, trim_trim r, ?_, by rw [h.ld]; omega, fun x => by rw [ev_trim, h.val x, ← hqQ, ev_trim]⟩
  · obtain ⟨q', b, e⟩ := snoc_of (p := d) (fun e => by have := h.ld; rw [e] at this; simp at this; omega)
    have hb := h.td hq
    have hl := h.ld
    rw [e] at hb hl ⊢
    rw [show nq - 1 = q'.length by simp at hl; omega, getD_last] at hb
    exact Tr.snoc hb q'
  · have := trim_short (l := r) (I := I) (fun j hj => h.zr j (by omega))
    rw [hqQ, hQ]
    omega
theorem Dvd.small {p q : List R} (h : (trim p).length < (trim q).length) : Dvd p q [] (trim p) :=
  ⟨Tr.nil, trim_trim p, h, Nat.zero_le _, fun x => by rw [ev_nil, zero_tms, zx, ev_trim]⟩
/-! ### what DivMod hands back -/
def Div0 (w : World) (e : Ending) (w' : World) : Prop := ∃ A c B f, e = .returned (.tuple #[.slice A 0 c, .slice B 0 f, .bool false]) ∧ IsSl w' A c [] ∧ IsSl w' B f [] ∧ Below w.heap.size w w'
def Div1 (p q : List R) (w : World) (e : Ending) (w' : World) : Prop := ∃ (d r : List R) (A : Option Addr) (c : Nat) (B : Option Addr) (f : Nat), Dvd p q d r ∧
  e = .returned (.tuple #[.slice A d.length c, .slice B r.length f, .bool true]) ∧ IsSl w' A c d ∧ IsSl w' B f r ∧ Below w.heap.size w w'
end Go.Proofs.Ytkobcffkgaodbaa.G6
