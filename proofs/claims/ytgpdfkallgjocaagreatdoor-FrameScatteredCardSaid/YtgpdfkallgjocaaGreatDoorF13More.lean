/- Plain facts for layer 13's laws: cells inverted or made unreadable one by one, at least eight positions apart. No program is named here. -/
import Derived.Test.YtgpdfkallgjocaaGreatDoorM13AJ
namespace Go.Proofs.YtgpdfkallgjocaaGreatDoor.F13
open C9 V10 I11
set_option linter.unusedVariables false
set_option linter.unusedSimpArgs false

theorem getD_lt {l : List UInt8} {i : Nat} (h : i < l.length) : l.getD i 0 = l[i] := getD_of h
structure Sc (A : List Bool) (X : List UInt8) (n e : Nat) : Prop where
  len : X.length = A.length
  mis : misL X A = n
  unr : unrL X = 0
  ok : X.all okC = true
  apart : Apart X A
  rest : ∀ i, X.getD i 0 ≠ (cs A).getD i 0 → i + 8 ≤ e
theorem Sc.start (A : List Bool) : Sc A (cs A) 0 0 := ⟨cs_len A, misL_self A, unrL_cs A, okC_sb A, Apart.same A, fun i h => absurd rfl h⟩
theorem Sc.later {A : List Bool} {X : List UInt8} {n e e' : Nat} (h : Sc A X n e) (he : e ≤ e') : Sc A X n e' := ⟨h.len, h.mis, h.unr, h.ok, h.apart, fun i hi => by have := h.rest i hi; omega⟩
theorem flip_cell (b : Bool) : cell b ^^^ 1 = cell !b := by cases b <;> rfl
theorem Sc.same {A : List Bool} {X : List UInt8} {n e k : Nat} (h : Sc A X n e) (hk : k < X.length) (he : e ≤ k) : X[k] = cell (A[k]'(by rw [← h.len]; exact hk)) := by
  have hA : k < A.length := by rw [← h.len]; exact hk
  have h1 : X.getD k 0 = (cs A).getD k 0 := by
    by_cases hne : X.getD k 0 = (cs A).getD k 0
    · exact hne
    · have := h.rest k hne
      omega
  rw [getD_lt hk, getD_lt (by rw [cs_len]; exact hA)] at h1
  rw [h1]
  unfold cs
  rw [List.getElem_map]
theorem Sc.step {A : List Bool} {X : List UInt8} {n e k : Nat} (h : Sc A X n e) (hk : k < X.length) (he : e ≤ k) : Sc A (X.set k (X[k] ^^^ 1)) (n + 1) (k + 8) := by
  have hA : k < A.length := by rw [← h.len]; exact hk
  have hx := h.same hk he
  have hy : X[k] ^^^ 1 = cell !(A[k]'hA) := by rw [hx, flip_cell]
  refine ⟨by rw [List.length_set]; exact h.len, ?_, ?_, ?_, h.apart.set k _ fun i hi => by have := h.rest i hi; omega, fun i hi => ?_⟩
  · have := misL_set X A k (X[k] ^^^ 1) hk hA
    rw [hx, flip_cell, mis_cell, mis_cell, h.mis] at this
    rw [hx, flip_cell]
    cases hb : A[k] <;> rw [hb] at this <;> simp [bn] at this <;> exact this
  · have := unrL_set_cell X k (!(A[k]'hA))
    rw [← hy, h.unr] at this
    omega
  · rw [List.all_eq_true]
    intro y hy2
    rcases List.mem_or_eq_of_mem_set hy2 with h1 | h1
    · exact List.all_eq_true.1 h.ok y h1
    · rw [h1, hy]
      cases A[k] <;> rfl
  · rw [getD_set] at hi
    by_cases e1 : i = k
    · omega
    · rw [if_neg (fun h => e1 h.1)] at hi
      have := h.rest i hi
      omega
structure Er (A : List Bool) (a : Nat) (X : List UInt8) (n e : Nat) : Prop where
  len : X.length = A.length
  mis : misL X A = 0
  unr : unrL X = n
  ok : X.all okC = true
  rest : ∀ i, X.getD i 0 ≠ (cs A).getD i 0 → i % 8 = a ∧ i < e
theorem Er.start (A : List Bool) (a e : Nat) : Er A a (cs A) 0 e := ⟨cs_len A, misL_self A, unrL_cs A, okC_sb A, fun i h => absurd rfl h⟩
theorem Er.apart {A : List Bool} {a n e : Nat} {X : List UInt8} (h : Er A a X n e) : Apart X A := by
  intro i j hij hj hi
  by_cases e1 : X.getD j 0 = (cs A).getD j 0
  · exact e1
  · have h1 := (h.rest i hi).1
    have h2 := (h.rest j e1).1
    omega
theorem unrL_set63 : ∀ (X : List UInt8) (k : Nat) (h : k < X.length), X[k] ≠ 63 → unrL (X.set k 63) = unrL X + 1
  | x :: X, 0, _, hx => by
    have hx' : (x == 63) = false := by rw [beq_eq_false_iff_ne]; exact hx
    show unrL (63 :: X) = unrL (x :: X) + 1
    rw [unrL_cons, unrL_cons, hx']
    simp
    omega
  | x :: X, k + 1, h, hx => by
    have ih := unrL_set63 X k (by simpa using h) hx
    show unrL (x :: X.set k 63) = unrL (x :: X) + 1
    rw [unrL_cons, unrL_cons, ih]
    omega
  | [], k, h, _ => by simp at h
theorem Er.step {A : List Bool} {a n k : Nat} {X : List UInt8} (h : Er A a X n k) (hk : k < X.length) (ha : k % 8 = a) : Er A a (X.set k 63) (n + 1) (k + 8) := by
  have hA : k < A.length := by rw [← h.len]; exact hk
  have hx : X[k] = cell (A[k]'hA) := by
    have h1 : X.getD k 0 = (cs A).getD k 0 := by
      by_cases hne : X.getD k 0 = (cs A).getD k 0
      · exact hne
      · have := (h.rest k hne).2
        omega
    rw [getD_lt hk, getD_lt (by rw [cs_len]; exact hA)] at h1
    rw [h1]
    unfold cs
    rw [List.getElem_map]
  refine ⟨by rw [List.length_set]; exact h.len, ?_, ?_, ?_, fun i hi => ?_⟩
  · have := misL_set X A k 63 hk hA
    rw [mis_q, h.mis] at this
    omega
  · rw [unrL_set63 X k hk (by rw [hx]; cases A[k] <;> decide), h.unr]
  · rw [List.all_eq_true]
    intro y hy2
    rcases List.mem_or_eq_of_mem_set hy2 with h1 | h1
    · exact List.all_eq_true.1 h.ok y h1
    · rw [h1]
      rfl
  · rw [getD_set] at hi
    by_cases e1 : i = k
    · exact ⟨by omega, by omega⟩
    · rw [if_neg (fun h => e1 h.1)] at hi
      have := h.rest i hi
      exact ⟨this.1, by omega⟩
structure Bu (C : List UInt8) (a : Nat) (c : List UInt8) (e : Nat) : Prop where
  len : c.length = C.length
  ok : c.all okC = true
  rest : ∀ i, c.getD i 0 ≠ C.getD i 0 → a ≤ i ∧ i < e
theorem Bu.start {C : List UInt8} (h : C.all okC = true) (a e : Nat) : Bu C a C e := ⟨rfl, h, fun i h => absurd rfl h⟩
theorem Bu.later {C c : List UInt8} {a e e' : Nat} (h : Bu C a c e) (he : e ≤ e') : Bu C a c e' := ⟨h.len, h.ok, fun i hi => by have := h.rest i hi; omega⟩
theorem Bu.step {C c : List UInt8} {a k : Nat} (h : Bu C a c k) (ha : a ≤ k) (y : UInt8) (hy : okC y = true) : Bu C a (c.set k y) (k + 1) := by
  refine ⟨by rw [List.length_set]; exact h.len, ?_, fun i hi => ?_⟩
  · rw [List.all_eq_true]
    intro z hz
    rcases List.mem_or_eq_of_mem_set hz with h1 | h1
    · exact List.all_eq_true.1 h.ok z h1
    · rw [h1]
      exact hy
  · rw [getD_set] at hi
    by_cases e1 : i = k
    · omega
    · rw [if_neg (fun h => e1 h.1)] at hi
      have := h.rest i hi
      omega
end Go.Proofs.YtgpdfkallgjocaaGreatDoor.F13
