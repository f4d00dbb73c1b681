/- Plain facts for layer 7: one coefficient changed, the generator polynomial, the long division of a word. No program is named here. -/
import Derived.Test.YtcfoclmkhippoaaG7Math
namespace Go.Proofs.Ytcfoclmkhippoaa.G7
set_option maxRecDepth 100000
open Go.Proofs.Ytcfoclmkhippoaa.G5
open Go.Proofs.Ytcfoclmkhippoaa.G6 (ev ev_nil ev_cons ev_append ev_snoc ev_one xz zx xac xcan tac tms_ne one_ne prodL prodL_len prodL_zero prodL_tr prodL_snoc mulL ev_mulL ev_lin Tr)
set_option linter.unusedVariables false
set_option linter.unusedSimpArgs false

theorem ev_set (x c : R) : ∀ (l : List R) (i : Nat), i < l.length → ev (l.set i c) x = ev l x ^^^ tms (pw x i) (l.getD i 0 ^^^ c)
  | [], i, h => by simp at h
  | a :: l, 0, _ => by
    show c ^^^ tms x (ev l x) = (a ^^^ tms x (ev l x)) ^^^ tms 1 (a ^^^ c)
    rw [one_tms]
    simp only [BitVec.xor_assoc, BitVec.xor_comm, xac, xcan, xs, xz, zx]
  | a :: l, i + 1, h => by
    show a ^^^ tms x (ev (l.set i c) x) = (a ^^^ tms x (ev l x)) ^^^ tms (tms (pw x i) x) (l.getD i 0 ^^^ c)
    rw [ev_set x c l i (by simpa using h), tms_b, BitVec.xor_assoc, tms_comm (pw x i) x, tms_assoc]
theorem vl_set (x c : R) : ∀ (w : List R) (i j : Nat), w.length = i + 1 + j → vl (w.set i c) x = vl w x ^^^ tms (pw x j) (w.getD i 0 ^^^ c)
  | [], i, j, h => by
    simp at h
    omega
  | a :: u, 0, j, h => by
    have hj : u.length = j := by simp at h; omega
    show vl (c :: u) x = vl (a :: u) x ^^^ tms (pw x j) (a ^^^ c)
    rw [vl_cons, vl_cons, hj, tms_b, tms_comm (pw x j) a, tms_comm (pw x j) c]
    simp only [BitVec.xor_assoc, BitVec.xor_comm, xac, xcan, xs, xz, zx]
  | a :: u, i + 1, j, h => by
    show vl (a :: u.set i c) x = vl (a :: u) x ^^^ tms (pw x j) (u.getD i 0 ^^^ c)
    rw [vl_cons, vl_cons, List.length_set, vl_set x c u i j (by simp at h; omega), BitVec.xor_assoc]

/-! ### the generator polynomial -/
def pows (p : Nat) : List R := (List.range p).map fun i => it i 1
def gen (p : Nat) : List R := prodL (pows p)
theorem gen_zero : gen 0 = [1] := rfl
theorem gen_succ (i : Nat) : gen (i + 1) = mulL (gen i) [it i 1, 1] := by
  unfold gen pows
  rw [List.range_succ, List.map_append]
  exact prodL_snoc _ _
theorem gen_len (p : Nat) : (gen p).length = p + 1 := by unfold gen; rw [prodL_len]; simp [pows]
theorem gen_tr (p : Nat) : Tr (gen p) := prodL_tr _
theorem ev_gen_succ (i : Nat) (x : R) : ev (gen (i + 1)) x = tms (ev (gen i) x) (it i 1 ^^^ x) := by rw [gen_succ, ev_mulL, ev_lin]
theorem gen_root {p i : Nat} (h : i < p) : ev (gen p) (it i 1) = 0 := by
  unfold gen
  rw [prodL_zero]
  exact List.mem_map.2 ⟨i, List.mem_range.2 h, rfl⟩
theorem gen_roots {p i : Nat} (hp : p ≤ 255) (hi : i < 255) : ev (gen p) (it i 1) = 0 ↔ i < p := by
  constructor
  · intro h
    unfold gen at h
    rw [prodL_zero] at h
    obtain ⟨j, hj, e⟩ := List.mem_map.1 h
    have hj := List.mem_range.1 hj
    have := it_same (by omega) hi e
    omega
  · exact gen_root
/-- A list of the right length with the right values is the next generator polynomial. -/
theorem gen_next {l : List R} {i : Nat} (hi : i ≤ 100) (hl : l.length = i + 2) (he : ∀ x, ev l x = tms (ev (gen i) x) (it i 1 ^^^ x)) : l = gen (i + 1) := by
  have h := G6.eq_ev (G6.trim_trim l) (gen_tr (i + 1)) (by have := G6.trim_len l; omega) (by rw [gen_len]; omega) fun x => by rw [G6.ev_trim, he, ev_gen_succ]
  have hlen := congrArg List.length h
  rw [gen_len] at hlen
  rw [← h]
  rcases G6.trim_cases l with h0 | ⟨q, a, ha, h0⟩
  · rw [h0] at hlen
    simp at hlen
  · exact (trim_full l (by rw [hlen, hl])).symm
where trim_full : ∀ l : List R, (G6.trim l).length = l.length → G6.trim l = l
  | [], _ => rfl
  | a :: l, h => by
    unfold G6.trim at h ⊢
    split at h
    · rename_i h1
      have hl := trim_full l
      split at h
      · simp at h
      · rw [if_pos h1]
        rename_i h2
        rw [if_neg h2]
        have : l = [] := List.eq_nil_of_length_eq_zero (by simp at h; exact h.symm ▸ rfl)
        rw [this]
    · rename_i h1
      rw [if_neg h1]
      rw [trim_full l (by simpa using h)]
theorem gen_last (p : Nat) : (gen p).getD p 0 = 1 := by
  induction p with
  | zero => rfl
  | succ p ih =>
    obtain ⟨q, a, hq⟩ := G6.snoc_of (p := gen p) (fun e => by have := gen_len p; rw [e] at this; simp at this)
    have hl := gen_len p
    rw [hq] at hl ih
    have hql : q.length = p := by simpa using hl
    rw [← hql, G6.getD_last] at ih
    obtain ⟨m, hm, hml⟩ := G6.ml_snoc q [it p 1] a 1
    have e : gen (p + 1) = m ++ [tms a 1] := by
      rw [gen_succ, hq]
      show G6.trim (G6.ml (q ++ [a]) ([it p 1] ++ [1])) = _
      rw [hm, ih, one_tms, G6.trim_snoc one_ne]
    rw [e, ih, one_tms]
    have : m.length = p + 1 := by rw [hml, hql]; rfl
    rw [← this]
    exact G6.getD_last m 1
end Go.Proofs.Ytcfoclmkhippoaa.G7
