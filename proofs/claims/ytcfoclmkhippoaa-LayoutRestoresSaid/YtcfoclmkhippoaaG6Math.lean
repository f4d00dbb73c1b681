/- Plain facts for layer 6 (gfpoly): polynomials over the field as lists of coefficients, by their values. No program is named here. -/
import Derived.Test.YtcfoclmkhippoaaG5Fun
namespace Go.Proofs.Ytcfoclmkhippoaa.G6
set_option maxRecDepth 100000
open Go.Proofs.Ytcfoclmkhippoaa.G5
set_option linter.unusedVariables false
set_option linter.unusedSimpArgs false

/-! ### the field, in the shapes that are used here -/
theorem xz (a : R) : a ^^^ 0 = a := BitVec.xor_zero
theorem zx (a : R) : 0 ^^^ a = a := BitVec.zero_xor
theorem xs (a : R) : a ^^^ a = 0 := BitVec.xor_self
theorem xac (a b c : R) : a ^^^ (b ^^^ c) = b ^^^ (a ^^^ c) := by rw [← BitVec.xor_assoc, BitVec.xor_comm a b, BitVec.xor_assoc]
theorem tac (a b c : R) : tms a (tms b c) = tms b (tms a c) := by rw [← tms_assoc, tms_comm a b, tms_assoc]
theorem xcan (a b : R) : a ^^^ (a ^^^ b) = b := by rw [← BitVec.xor_assoc, xs, zx]
theorem one_ne : (1 : R) ≠ 0 := by decide
theorem tms_ne {a b : R} (ha : a ≠ 0) (hb : b ≠ 0) : tms a b ≠ 0 := fun h => (tms_eq_zero h).elim ha hb

/-! ### values -/
def ev : List R → R → R
  | [], _ => 0
  | a :: p, x => a ^^^ tms x (ev p x)
theorem ev_nil (x : R) : ev [] x = 0 := rfl
theorem ev_cons (a : R) (p : List R) (x : R) : ev (a :: p) x = a ^^^ tms x (ev p x) := rfl
theorem ev_one (a x : R) : ev [a] x = a := by rw [ev_cons, ev_nil, tms_zero, xz]
theorem ev_append (p q : List R) (x : R) : ev (p ++ q) x = ev p x ^^^ tms (pw x p.length) (ev q x) := by
  induction p with
  | nil =>
    show ev q x = 0 ^^^ tms 1 (ev q x)
    rw [one_tms, zx]
  | cons a p ih =>
    show a ^^^ tms x (ev (p ++ q) x) = (a ^^^ tms x (ev p x)) ^^^ tms (tms (pw x p.length) x) (ev q x)
    rw [ih, tms_b, BitVec.xor_assoc, tms_comm (pw x p.length) x, tms_assoc]
theorem ev_snoc (p : List R) (a x : R) : ev (p ++ [a]) x = ev p x ^^^ tms (pw x p.length) a := by rw [ev_append, ev_one]
theorem ev_zeros (n : Nat) (x : R) : ev (List.replicate n 0) x = 0 := by
  induction n with
  | zero => rfl
  | succ n ih => rw [List.replicate_succ, ev_cons, ih, tms_zero, xz]
theorem ev_shift (n : Nat) (p : List R) (x : R) : ev (List.replicate n 0 ++ p) x = tms (pw x n) (ev p x) := by
  rw [ev_append, ev_zeros, zx, List.length_replicate]

/-! ### trimming -/
def trim : List R → List R
  | [] => []
  | a :: p => if trim p = [] then (if a = 0 then [] else [a]) else a :: trim p
theorem ev_trim : ∀ (p : List R) (x : R), ev (trim p) x = ev p x
  | [], x => rfl
  | a :: p, x => by
    unfold trim
    have ih := ev_trim p x
    split
    · rename_i h
      rw [h] at ih
      rw [ev_cons, ← ih, ev_nil, tms_zero, xz]
      split
      · rename_i h0
        rw [h0]
        rfl
      · rw [ev_one]
    · rw [ev_cons, ev_cons, ih]
theorem trim_len : ∀ p : List R, (trim p).length ≤ p.length
  | [] => Nat.le_refl _
  | a :: p => by
    unfold trim
    have ih := trim_len p
    split
    · split <;> simp
    · simp; exact ih
theorem trim_zeros : ∀ p : List R, (∀ a ∈ p, a = 0) → trim p = []
  | [], _ => rfl
  | a :: p, h => by
    unfold trim
    rw [if_pos (trim_zeros p fun b hb => h b (by simp [hb])), if_pos (h a (by simp))]
theorem zeros_of_trim : ∀ p : List R, trim p = [] → ∀ a ∈ p, a = 0
  | [], _ => fun a h => by cases h
  | a :: p, h => by
    unfold trim at h
    split at h
    · rename_i h1
      split at h
      · rename_i h0
        intro b hb
        rcases List.mem_cons.1 hb with rfl | hb
        · exact h0
        · exact zeros_of_trim p h1 b hb
      · cases h
    · cases h
theorem trim_snoc0 : ∀ p : List R, trim (p ++ [0]) = trim p
  | [] => rfl
  | a :: p => by
    show trim (a :: (p ++ [0])) = _
    unfold trim
    rw [trim_snoc0 p]
theorem trim_snoc {a : R} (h : a ≠ 0) : ∀ p : List R, trim (p ++ [a]) = p ++ [a]
  | [] => by
    show trim [a] = [a]
    unfold trim
    rw [if_pos (show trim [] = [] from rfl), if_neg h]
  | b :: p => by
    show trim (b :: (p ++ [a])) = _
    unfold trim
    rw [trim_snoc h p, if_neg (by simp)]
    rfl
/-- A list without a zero at its end. -/
def Tr (p : List R) : Prop := trim p = p
theorem snoc_of {p : List R} (h : p ≠ []) : ∃ q a, p = q ++ [a] := ⟨p.dropLast, p.getLast h, (List.dropLast_concat_getLast h).symm⟩
theorem trim_cases (p : List R) : trim p = [] ∨ ∃ q a, a ≠ 0 ∧ trim p = q ++ [a] := by
  induction p with
  | nil => exact .inl rfl
  | cons b p ih =>
    unfold trim
    rcases ih with h | ⟨q, a, ha, h⟩
    · rw [h, if_pos rfl]
      by_cases h0 : b = 0
      · rw [if_pos h0]; exact .inl rfl
      · rw [if_neg h0]; exact .inr ⟨[], b, h0, rfl⟩
    · rw [h, if_neg (by simp)]
      exact .inr ⟨b :: q, a, ha, rfl⟩
theorem trim_trim (p : List R) : Tr (trim p) := by
  unfold Tr
  rcases trim_cases p with h | ⟨q, a, ha, h⟩
  · rw [h]; rfl
  · rw [h, trim_snoc ha]
theorem Tr.nil : Tr [] := rfl
theorem Tr.snoc {a : R} (h : a ≠ 0) (p : List R) : Tr (p ++ [a]) := trim_snoc h p
theorem Tr.last {p : List R} {a : R} (h : Tr (p ++ [a])) : a ≠ 0 := fun e => by
  unfold Tr at h
  rw [e, trim_snoc0] at h
  have := trim_len p
  rw [h] at this
  simp at this
  omega
theorem Tr.tail {a : R} {p : List R} (h : Tr (a :: p)) : Tr p := by
  unfold Tr at h ⊢
  unfold trim at h
  split at h
  · rename_i h1
    split at h
    · cases h
    · injection h with _ h
      rw [← h]
      rfl
  · injection h
theorem Tr.eq {p : List R} (h : Tr p) : trim p = p := h

/-! ### sums, multiples, products -/
def ad : List R → List R → List R
  | [], q => q
  | p, [] => p
  | a :: p, b :: q => (a ^^^ b) :: ad p q
theorem ad_nil (p : List R) : ad p [] = p := by cases p <;> rfl
theorem nil_ad (q : List R) : ad [] q = q := rfl
theorem ad_cons (a b : R) (p q : List R) : ad (a :: p) (b :: q) = (a ^^^ b) :: ad p q := rfl
theorem ev_ad : ∀ (p q : List R) (x : R), ev (ad p q) x = ev p x ^^^ ev q x
  | [], q, x => by rw [nil_ad, ev_nil, zx]
  | a :: p, [], x => by rw [ad_nil, ev_nil, xz]
  | a :: p, b :: q, x => by
    rw [ad_cons, ev_cons, ev_cons, ev_cons, ev_ad p q x, tms_b, xor4r]
theorem ad_len : ∀ p q : List R, (ad p q).length = max p.length q.length
  | [], q => by rw [nil_ad]; simp
  | a :: p, [] => by rw [ad_nil]; simp
  | a :: p, b :: q => by rw [ad_cons, List.length_cons, ad_len p q, List.length_cons, List.length_cons]; omega
theorem ad_get : ∀ (p q : List R) (i : Nat), (ad p q).getD i 0 = p.getD i 0 ^^^ q.getD i 0
  | [], q, i => by rw [nil_ad]; simp
  | a :: p, [], i => by rw [ad_nil]; simp
  | a :: p, b :: q, 0 => by rw [ad_cons]; rfl
  | a :: p, b :: q, i + 1 => by rw [ad_cons]; exact ad_get p q i
def sc (c : R) (p : List R) : List R := p.map (tms c)
theorem ev_sc (c : R) (p : List R) (x : R) : ev (sc c p) x = tms c (ev p x) := by
  induction p with
  | nil => rw [show sc c [] = [] from rfl, ev_nil, tms_zero]
  | cons a p ih =>
    show tms c a ^^^ tms x (ev (sc c p) x) = tms c (a ^^^ tms x (ev p x))
    rw [ih, tms_b, tac]
theorem sc_len (c : R) (p : List R) : (sc c p).length = p.length := by simp [sc]
def ml : List R → List R → List R
  | [], _ => []
  | a :: p, q => ad (sc a q) (0 :: ml p q)
theorem ev_ml : ∀ (p q : List R) (x : R), ev (ml p q) x = tms (ev p x) (ev q x)
  | [], q, x => by rw [show ml [] q = [] from rfl, ev_nil, zero_tms]
  | a :: p, q, x => by
    rw [show ml (a :: p) q = ad (sc a q) (0 :: ml p q) from rfl, ev_ad, ev_sc, ev_cons, zx, ev_ml p q x, ev_cons, tms_a, tms_assoc]
theorem ml_len : ∀ p q : List R, (ml p q).length ≤ p.length + q.length
  | [], q => by simp [ml]
  | a :: p, q => by
    have := ml_len p q
    rw [show ml (a :: p) q = ad (sc a q) (0 :: ml p q) from rfl, ad_len, sc_len]
    simp
    omega
theorem ad_snoc_le : ∀ (p q : List R) (a : R), p.length ≤ q.length → ad p (q ++ [a]) = ad p q ++ [a]
  | [], q, a, _ => rfl
  | b :: p, [], a, h => by simp at h
  | b :: p, c :: q, a, h => by
    show (b ^^^ c) :: ad p (q ++ [a]) = (b ^^^ c) :: ad p q ++ [a]
    rw [ad_snoc_le p q a (by simpa using h)]
    rfl
theorem ad_zero : ∀ l : List R, l ≠ [] → ad l [0] = l
  | [], h => absurd rfl h
  | a :: l, _ => by rw [ad_cons, xz, ad_nil]
/-- The last coefficient of a product. -/
theorem ml_snoc : ∀ (p q : List R) (a b : R), ∃ m : List R, ml (p ++ [a]) (q ++ [b]) = m ++ [tms a b] ∧ m.length = p.length + q.length
  | [], q, a, b => by
    refine ⟨sc a q, ?_, ?_⟩
    · show ad (sc a (q ++ [b])) [0] = _
      rw [ad_zero _ (by simp [sc])]
      simp [sc]
    · rw [sc_len]
      simp
  | c :: p, q, a, b => by
    obtain ⟨m, hm, hl⟩ := ml_snoc p q a b
    refine ⟨ad (sc c (q ++ [b])) (0 :: m), ?_, ?_⟩
    · show ad (sc c (q ++ [b])) (0 :: ml (p ++ [a]) (q ++ [b])) = _
      rw [hm]
      have := ad_snoc_le (sc c (q ++ [b])) (0 :: m) (tms a b) (by rw [sc_len]; simp; omega)
      exact this
    · rw [ad_len, sc_len]
      simp
      omega
theorem ml_nil : ∀ p : List R, ∀ a ∈ ml p [], a = 0
  | [], a, h => by cases h
  | c :: p, a, h => by
    rw [show ml (c :: p) [] = ad (sc c []) (0 :: ml p []) from rfl, show sc c [] = [] from rfl, nil_ad] at h
    rcases List.mem_cons.1 h with rfl | h
    · rfl
    · exact ml_nil p a h
/-- A product of lists without zeros at their ends. -/
theorem Tr.ml {p q : List R} (hp : Tr p) (hq : Tr q) (h1 : p ≠ []) (h2 : q ≠ []) : Tr (ml p q) ∧ (ml p q).length + 1 = p.length + q.length := by
  obtain ⟨p', a, rfl⟩ := snoc_of h1
  obtain ⟨q', b, rfl⟩ := snoc_of h2
  obtain ⟨m, hm, hl⟩ := ml_snoc p' q' a b
  rw [hm]
  refine ⟨Tr.snoc (tms_ne hp.last hq.last) m, ?_⟩
  simp
  omega

/-! ### a polynomial with too many roots is zero -/
/-- Synthetic division: the quotient of a + x * p by x - c. -/
def qt (c : R) : List R → List R
  | [] => []
  | b :: p => ev (b :: p) c :: qt c p
theorem qt_len (c : R) : ∀ p, (qt c p).length = p.length
  | [] => rfl
  | b :: p => by
    show (ev (b :: p) c :: qt c p).length = _
    rw [List.length_cons, qt_len c p, List.length_cons]
theorem qt_ev (c x : R) : ∀ (p : List R) (a : R), ev (a :: p) x = tms (x ^^^ c) (ev (qt c p) x) ^^^ ev (a :: p) c
  | [], a => by rw [ev_one, ev_one, show qt c [] = [] from rfl, ev_nil, tms_zero, zx]
  | b :: p, a => by
    have ih := qt_ev c x p b
    obtain ⟨E, hE⟩ : ∃ E, ev (b :: p) c = E := ⟨_, rfl⟩
    rw [show qt c (b :: p) = ev (b :: p) c :: qt c p from rfl, ev_cons a (b :: p) x, ih, ev_cons a (b :: p) c, ev_cons (ev (b :: p) c), hE]
    obtain ⟨Q, hQ⟩ : ∃ Q, ev (qt c p) x = Q := ⟨_, rfl⟩
    rw [hQ, tms_b x, tms_b (x ^^^ c) E, tms_a x c E, tac x (x ^^^ c) Q]
    obtain ⟨A, hA⟩ : ∃ A, tms (x ^^^ c) (tms x Q) = A := ⟨_, rfl⟩
    rw [hA]
    obtain ⟨X, hX⟩ : ∃ X, tms x E = X := ⟨_, rfl⟩
    obtain ⟨C, hC⟩ : ∃ C, tms c E = C := ⟨_, rfl⟩
    rw [hX, hC]
    simp only [BitVec.xor_assoc, BitVec.xor_comm, xac, xcan, xs, xz, zx]
theorem qt_zeros (c : R) : ∀ p : List R, (∀ a ∈ qt c p, a = 0) → ∀ a ∈ p, a = 0
  | [], _ => fun a h => by cases h
  | b :: p, h => by
    have h1 : ev (b :: p) c = 0 := h _ (by show ev (b :: p) c ∈ ev (b :: p) c :: qt c p; simp)
    have h2 : ∀ a ∈ qt c p, a = 0 := fun a ha => h a (by show a ∈ ev (b :: p) c :: qt c p; simp [ha])
    have ih := qt_zeros c p h2
    have h3 : ev p c = 0 := by
      have := ev_trim p c
      rw [trim_zeros p ih] at this
      exact this.symm
    rw [ev_cons, h3, tms_zero, xz] at h1
    intro a ha
    rcases List.mem_cons.1 ha with rfl | ha
    · exact h1
    · exact ih a ha
theorem few_roots : ∀ (xs : List R), xs.Nodup → ∀ l : List R, l.length ≤ xs.length → (∀ x ∈ xs, ev l x = 0) → ∀ a ∈ l, a = 0
  | [], _, l, h, _ => by
    obtain rfl : l = [] := List.eq_nil_of_length_eq_zero (by simpa using h)
    exact fun a h => by cases h
  | c :: xs, _, [], _, _ => fun a h => by cases h
  | c :: xs, hn, b :: p, h, hr => by
    obtain ⟨hc, hn⟩ := List.nodup_cons.1 hn
    have h0 : ev (b :: p) c = 0 := hr c (by simp)
    have hq : ∀ x ∈ xs, ev (qt c p) x = 0 := fun x hx => by
      have h1 := qt_ev c x p b
      rw [hr x (by simp [hx]), h0, xz] at h1
      rcases tms_eq_zero h1.symm with h2 | h2
      · exact absurd (xor_eq_zero h2) (fun e => hc (e ▸ hx))
      · exact h2
    have hz := few_roots xs hn (qt c p) (by rw [qt_len]; simpa using h) hq
    have hp := qt_zeros c p hz
    have h3 : ev p c = 0 := by
      have := ev_trim p c
      rw [trim_zeros p hp] at this
      exact this.symm
    rw [ev_cons, h3, tms_zero, xz] at h0
    intro a ha
    rcases List.mem_cons.1 ha with rfl | ha
    · exact h0
    · exact hp a ha
theorem eq_of_zeros : ∀ l m : List R, Tr l → Tr m → (∀ a ∈ ad l m, a = 0) → l = m
  | [], m, _, hm, h => by
    have := trim_zeros m h
    rw [hm.eq] at this
    exact this.symm
  | a :: l, [], hl, _, h => by
    have := trim_zeros _ h
    rw [ad_nil, hl.eq] at this
    exact this
  | a :: l, b :: m, hl, hm, h => by
    rw [ad_cons] at h
    have h1 := xor_eq_zero (h (a ^^^ b) (by simp))
    have h2 := eq_of_zeros l m hl.tail hm.tail fun c hc => h c (by simp [hc])
    rw [h1, h2]
/-- Two trimmed lists that agree at as many points as they have coefficients are equal. -/
theorem eq_at {xs l m : List R} (hn : xs.Nodup) (hl : Tr l) (hm : Tr m) (h1 : l.length ≤ xs.length) (h2 : m.length ≤ xs.length) (h : ∀ x ∈ xs, ev l x = ev m x) : l = m :=
  eq_of_zeros l m hl hm (few_roots xs hn (ad l m) (by rw [ad_len]; omega) fun x hx => by rw [ev_ad, h x hx, G6.xs])
def pts : List R := (List.range 256).map (BitVec.ofNat 8)
theorem pts_nodup : pts.Nodup := by decide +kernel
theorem eq_ev {l m : List R} (hl : Tr l) (hm : Tr m) (h1 : l.length ≤ 256) (h2 : m.length ≤ 256) (h : ∀ x, ev l x = ev m x) : l = m :=
  eq_at (xs := pts) pts_nodup hl hm (by simpa [pts] using h1) (by simpa [pts] using h2) fun x _ => h x
end Go.Proofs.Ytcfoclmkhippoaa.G6
