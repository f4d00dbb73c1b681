/- Facts and contracts that the walks of this layer use, merged: G6Math, G6More, G6Sl, G6At, G6OwnEv, G6OwnMul. -/
import Derived.Test.YtiodkllckcpinaaGreatDoorM14AH
import Derived.DataShut
import Derived.Test.YtiodkllckcpinaaGreatDoorRows
import Derived.Test.YtiodkllckcpinaaGreatDoorM14AA
import Derived.Laws.OwnMore
import Derived.Laws.CopyOwn
import Derived.StillTailTactics
set_option linter.unusedVariables false
set_option linter.unusedSimpArgs false
set_option maxRecDepth 100000
namespace Go.Proofs.YtiodkllckcpinaaGreatDoor
namespace G6
open G5

/-! ### the field, in the shapes that are used here -/
theorem xz (a : R) : a ^^^ 0 = a := BitVec.xor_zero
theorem zx (a : R) : 0 ^^^ a = a := BitVec.zero_xor
theorem xs (a : R) : a ^^^ a = 0 := BitVec.xor_self
theorem xac (a b c : R) : a ^^^ (b ^^^ c) = b ^^^ (a ^^^ c) := by rw [← BitVec.xor_assoc, BitVec.xor_comm a b, BitVec.xor_assoc]
theorem tac (a b c : R) : tms a (tms b c) = tms b (tms a c) := by rw [← tms_assoc, tms_comm a b, tms_assoc]
theorem xcan (a b : R) : a ^^^ (a ^^^ b) = b := by rw [← BitVec.xor_assoc, xs, zx]
theorem one_ne : (1 : R) ≠ 0 := by decide
theorem tms_ne {a b : R} (ha : a ≠ 0) (hb : b ≠ 0) : tms a b ≠ 0 := fun h => (tms_eq_zero h).elim ha hb

/-! ### values -/
def ev : List R → R → R
 | [], _ => 0
 | a :: p, x => a ^^^ tms x (ev p x)
theorem ev_nil (x : R) : ev [] x = 0 := rfl
theorem ev_cons (a : R) (p : List R) (x : R) : ev (a :: p) x = a ^^^ tms x (ev p x) := rfl
theorem ev_one (a x : R) : ev [a] x = a := by rw [ev_cons, ev_nil, tms_zero, xz]
theorem ev_append (p q : List R) (x : R) : ev (p ++ q) x = ev p x ^^^ tms (pw x p.length) (ev q x) := by
 induction p with
 | nil =>
  show ev q x = 0 ^^^ tms 1 (ev q x)
  rw [one_tms, zx]
 | cons a p ih =>
  show a ^^^ tms x (ev (p ++ q) x) = (a ^^^ tms x (ev p x)) ^^^ tms (tms (pw x p.length) x) (ev q x)
  rw [ih, tms_b, BitVec.xor_assoc, tms_comm (pw x p.length) x, tms_assoc]
theorem ev_snoc (p : List R) (a x : R) : ev (p ++ [a]) x = ev p x ^^^ tms (pw x p.length) a := by rw [ev_append, ev_one]
theorem ev_zeros (n : Nat) (x : R) : ev (List.replicate n 0) x = 0 := by
 induction n with
 | zero => rfl
 | succ n ih => rw [List.replicate_succ, ev_cons, ih, tms_zero, xz]
theorem ev_shift (n : Nat) (p : List R) (x : R) : ev (List.replicate n 0 ++ p) x = tms (pw x n) (ev p x) := by
 rw [ev_append, ev_zeros, zx, List.length_replicate]

/-! ### trimming -/
def trim : List R → List R
 | [] => []
 | a :: p => if trim p = [] then (if a = 0 then [] else [a]) else a :: trim p
theorem ev_trim : ∀ (p : List R) (x : R), ev (trim p) x = ev p x
 | [], x => rfl
 | a :: p, x => by
  unfold trim
  have ih := ev_trim p x
  split
  ·rename_i h
   rw [h] at ih
   rw [ev_cons, ← ih, ev_nil, tms_zero, xz]
   split
   ·rename_i h0
    rw [h0]
    rfl
   ·rw [ev_one]
  ·rw [ev_cons, ev_cons, ih]
theorem trim_len : ∀ p : List R, (trim p).length ≤ p.length
 | [] => Nat.le_refl _
 | a :: p => by
  unfold trim
  have ih := trim_len p
  split
  ·split <;> simp
  ·simp; exact ih
theorem trim_zeros : ∀ p : List R, (∀ a ∈ p, a = 0) → trim p = []
 | [], _ => rfl
 | a :: p, h => by
  unfold trim
  rw [if_pos (trim_zeros p fun b hb => h b (by simp [hb])), if_pos (h a (by simp))]
theorem zeros_of_trim : ∀ p : List R, trim p = [] → ∀ a ∈ p, a = 0
 | [], _ => fun a h => by cases h
 | a :: p, h => by
  unfold trim at h
  split at h
  ·rename_i h1
   split at h
   ·rename_i h0
    intro b hb
    rcases List.mem_cons.1 hb with rfl | hb
    ·exact h0
    ·exact zeros_of_trim p h1 b hb
   ·cases h
  ·cases h
theorem trim_snoc0 : ∀ p : List R, trim (p ++ [0]) = trim p
 | [] => rfl
 | a :: p => by
  show trim (a :: (p ++ [0])) = _
  unfold trim
  rw [trim_snoc0 p]
theorem trim_snoc {a : R} (h : a ≠ 0) : ∀ p : List R, trim (p ++ [a]) = p ++ [a]
 | [] => by
  show trim [a] = [a]
  unfold trim
  rw [if_pos (show trim [] = [] from rfl), if_neg h]
 | b :: p => by
  show trim (b :: (p ++ [a])) = _
  unfold trim
  rw [trim_snoc h p, if_neg (by simp)]
  rfl
def Tr (p : List R) : Prop := trim p = p
theorem snoc_of {p : List R} (h : p ≠ []) : ∃ q a, p = q ++ [a] := ⟨p.dropLast, p.getLast h, (List.dropLast_concat_getLast h).symm⟩
theorem trim_cases (p : List R) : trim p = [] ∨ ∃ q a, a ≠ 0 ∧ trim p = q ++ [a] := by
 induction p with
 | nil => exact .inl rfl
 | cons b p ih =>
  unfold trim
  rcases ih with h | ⟨q, a, ha, h⟩
  ·rw [h, if_pos rfl]
   by_cases h0 : b = 0
   ·rw [if_pos h0]; exact .inl rfl
   ·rw [if_neg h0]; exact .inr ⟨[], b, h0, rfl⟩
  ·rw [h, if_neg (by simp)]
   exact .inr ⟨b :: q, a, ha, rfl⟩
theorem trim_trim (p : List R) : Tr (trim p) := by
 unfold Tr
 rcases trim_cases p with h | ⟨q, a, ha, h⟩
 ·rw [h]; rfl
 ·rw [h, trim_snoc ha]
theorem Tr.nil : Tr [] := rfl
theorem Tr.snoc {a : R} (h : a ≠ 0) (p : List R) : Tr (p ++ [a]) := trim_snoc h p
theorem Tr.last {p : List R} {a : R} (h : Tr (p ++ [a])) : a ≠ 0 := fun e => by
 unfold Tr at h
 rw [e, trim_snoc0] at h
 have := trim_len p
 rw [h] at this
 simp at this
 omega
theorem Tr.tail {a : R} {p : List R} (h : Tr (a :: p)) : Tr p := by
 unfold Tr at h ⊢
 unfold trim at h
 split at h
 ·rename_i h1
  split at h
  ·cases h
  ·injection h with _ h
   rw [← h]
   rfl
 ·injection h
theorem Tr.eq {p : List R} (h : Tr p) : trim p = p := h

/-! ### sums, multiples, products -/
def ad : List R → List R → List R
 | [], q => q
 | p, [] => p
 | a :: p, b :: q => (a ^^^ b) :: ad p q
theorem ad_nil (p : List R) : ad p [] = p := by cases p <;> rfl
theorem nil_ad (q : List R) : ad [] q = q := rfl
theorem ad_cons (a b : R) (p q : List R) : ad (a :: p) (b :: q) = (a ^^^ b) :: ad p q := rfl
theorem ev_ad : ∀ (p q : List R) (x : R), ev (ad p q) x = ev p x ^^^ ev q x
 | [], q, x => by rw [nil_ad, ev_nil, zx]
 | a :: p, [], x => by rw [ad_nil, ev_nil, xz]
 | a :: p, b :: q, x => by
  rw [ad_cons, ev_cons, ev_cons, ev_cons, ev_ad p q x, tms_b, xor4r]
theorem ad_len : ∀ p q : List R, (ad p q).length = max p.length q.length
 | [], q => by rw [nil_ad]; simp
 | a :: p, [] => by rw [ad_nil]; simp
 | a :: p, b :: q => by rw [ad_cons, List.length_cons, ad_len p q, List.length_cons, List.length_cons]; omega
theorem ad_get : ∀ (p q : List R) (i : Nat), (ad p q).getD i 0 = p.getD i 0 ^^^ q.getD i 0
 | [], q, i => by rw [nil_ad]; simp
 | a :: p, [], i => by rw [ad_nil]; simp
 | a :: p, b :: q, 0 => by rw [ad_cons]; rfl
 | a :: p, b :: q, i + 1 => by rw [ad_cons]; exact ad_get p q i
def sc (c : R) (p : List R) : List R := p.map (tms c)
theorem ev_sc (c : R) (p : List R) (x : R) : ev (sc c p) x = tms c (ev p x) := by
 induction p with
 | nil => rw [show sc c [] = [] from rfl, ev_nil, tms_zero]
 | cons a p ih =>
  show tms c a ^^^ tms x (ev (sc c p) x) = tms c (a ^^^ tms x (ev p x))
  rw [ih, tms_b, tac]
theorem sc_len (c : R) (p : List R) : (sc c p).length = p.length := by simp [sc]
def ml : List R → List R → List R
 | [], _ => []
 | a :: p, q => ad (sc a q) (0 :: ml p q)
theorem ev_ml : ∀ (p q : List R) (x : R), ev (ml p q) x = tms (ev p x) (ev q x)
 | [], q, x => by rw [show ml [] q = [] from rfl, ev_nil, zero_tms]
 | a :: p, q, x => by
  rw [show ml (a :: p) q = ad (sc a q) (0 :: ml p q) from rfl, ev_ad, ev_sc, ev_cons, zx, ev_ml p q x, ev_cons, tms_a, tms_assoc]
theorem ml_len : ∀ p q : List R, (ml p q).length ≤ p.length + q.length
 | [], q => by simp [ml]
 | a :: p, q => by
  have := ml_len p q
  rw [show ml (a :: p) q = ad (sc a q) (0 :: ml p q) from rfl, ad_len, sc_len]
  simp
  omega
theorem ad_snoc_le : ∀ (p q : List R) (a : R), p.length ≤ q.length → ad p (q ++ [a]) = ad p q ++ [a]
 | [], q, a, _ => rfl
 | b :: p, [], a, h => by simp at h
 | b :: p, c :: q, a, h => by
  show (b ^^^ c) :: ad p (q ++ [a]) = (b ^^^ c) :: ad p q ++ [a]
  rw [ad_snoc_le p q a (by simpa using h)]
  rfl
theorem ad_zero : ∀ l : List R, l ≠ [] → ad l [0] = l
 | [], h => absurd rfl h
 | a :: l, _ => by rw [ad_cons, xz, ad_nil]
theorem ml_snoc : ∀ (p q : List R) (a b : R), ∃ m : List R, ml (p ++ [a]) (q ++ [b]) = m ++ [tms a b] ∧ m.length = p.length + q.length
 | [], q, a, b => by
  refine ⟨sc a q, ?_, ?_⟩
  ·show ad (sc a (q ++ [b])) [0] = _
   rw [ad_zero _ (by simp [sc])]
   simp [sc]
  ·rw [sc_len]
   simp
 | c :: p, q, a, b => by
  obtain ⟨m, hm, hl⟩ := ml_snoc p q a b
  refine ⟨ad (sc c (q ++ [b])) (0 :: m), ?_, ?_⟩
  ·show ad (sc c (q ++ [b])) (0 :: ml (p ++ [a]) (q ++ [b])) = _
   rw [hm]
   have := ad_snoc_le (sc c (q ++ [b])) (0 :: m) (tms a b) (by rw [sc_len]; simp; omega)
   exact this
  ·rw [ad_len, sc_len]
   simp
   omega
theorem ml_nil : ∀ p : List R, ∀ a ∈ ml p [], a = 0
 | [], a, h => by cases h
 | c :: p, a, h => by
  rw [show ml (c :: p) [] = ad (sc c []) (0 :: ml p []) from rfl, show sc c [] = [] from rfl, nil_ad] at h
  rcases List.mem_cons.1 h with rfl | h
  ·rfl
  ·exact ml_nil p a h
theorem Tr.ml {p q : List R} (hp : Tr p) (hq : Tr q) (h1 : p ≠ []) (h2 : q ≠ []) : Tr (ml p q) ∧ (ml p q).length + 1 = p.length + q.length := by
 obtain ⟨p', a, rfl⟩ := snoc_of h1
 obtain ⟨q', b, rfl⟩ := snoc_of h2
 obtain ⟨m, hm, hl⟩ := ml_snoc p' q' a b
 rw [hm]
 refine ⟨Tr.snoc (tms_ne hp.last hq.last) m, ?_⟩
 simp
 omega

/-! ### a polynomial with too many roots is zero -/
/-- Synthetic division: the quotient of a + x * p by x - c. -/
def qt (c : R) : List R → List R
 | [] => []
 | b :: p => ev (b :: p) c :: qt c p
theorem qt_len (c : R) : ∀ p, (qt c p).length = p.length
 | [] => rfl
 | b :: p => by
  show (ev (b :: p) c :: qt c p).length = _
  rw [List.length_cons, qt_len c p, List.length_cons]
theorem qt_ev (c x : R) : ∀ (p : List R) (a : R), ev (a :: p) x = tms (x ^^^ c) (ev (qt c p) x) ^^^ ev (a :: p) c
 | [], a => by rw [ev_one, ev_one, show qt c [] = [] from rfl, ev_nil, tms_zero, zx]
 | b :: p, a => by
  have ih := qt_ev c x p b
  obtain ⟨E, hE⟩ : ∃ E, ev (b :: p) c = E := ⟨_, rfl⟩
  rw [show qt c (b :: p) = ev (b :: p) c :: qt c p from rfl, ev_cons a (b :: p) x, ih, ev_cons a (b :: p) c, ev_cons (ev (b :: p) c), hE]
  obtain ⟨Q, hQ⟩ : ∃ Q, ev (qt c p) x = Q := ⟨_, rfl⟩
  rw [hQ, tms_b x, tms_b (x ^^^ c) E, tms_a x c E, tac x (x ^^^ c) Q]
  obtain ⟨A, hA⟩ : ∃ A, tms (x ^^^ c) (tms x Q) = A := ⟨_, rfl⟩
  rw [hA]
  obtain ⟨X, hX⟩ : ∃ X, tms x E = X := ⟨_, rfl⟩
  obtain ⟨C, hC⟩ : ∃ C, tms c E = C := ⟨_, rfl⟩
  rw [hX, hC]
  simp only [BitVec.xor_assoc, BitVec.xor_comm, xac, xcan, xs, xz, zx]
theorem qt_zeros (c : R) : ∀ p : List R, (∀ a ∈ qt c p, a = 0) → ∀ a ∈ p, a = 0
 | [], _ => fun a h => by cases h
 | b :: p, h => by
  have h1 : ev (b :: p) c = 0 := h _ (by show ev (b :: p) c ∈ ev (b :: p) c :: qt c p; simp)
  have h2 : ∀ a ∈ qt c p, a = 0 := fun a ha => h a (by show a ∈ ev (b :: p) c :: qt c p; simp [ha])
  have ih := qt_zeros c p h2
  have h3 : ev p c = 0 := by
   have := ev_trim p c
   rw [trim_zeros p ih] at this
   exact this.symm
  rw [ev_cons, h3, tms_zero, xz] at h1
  intro a ha
  rcases List.mem_cons.1 ha with rfl | ha
  ·exact h1
  ·exact ih a ha
theorem few_roots : ∀ (xs : List R), xs.Nodup → ∀ l : List R, l.length ≤ xs.length → (∀ x ∈ xs, ev l x = 0) → ∀ a ∈ l, a = 0
 | [], _, l, h, _ => by
  obtain rfl : l = [] := List.eq_nil_of_length_eq_zero (by simpa using h)
  exact fun a h => by cases h
 | c :: xs, _, [], _, _ => fun a h => by cases h
 | c :: xs, hn, b :: p, h, hr => by
  obtain ⟨hc, hn⟩ := List.nodup_cons.1 hn
  have h0 : ev (b :: p) c = 0 := hr c (by simp)
  have hq : ∀ x ∈ xs, ev (qt c p) x = 0 := fun x hx => by
   have h1 := qt_ev c x p b
   rw [hr x (by simp [hx]), h0, xz] at h1
   rcases tms_eq_zero h1.symm with h2 | h2
   ·exact absurd (xor_eq_zero h2) (fun e => hc (e ▸ hx))
   ·exact h2
  have hz := few_roots xs hn (qt c p) (by rw [qt_len]; simpa using h) hq
  have hp := qt_zeros c p hz
  have h3 : ev p c = 0 := by
   have := ev_trim p c
   rw [trim_zeros p hp] at this
   exact this.symm
  rw [ev_cons, h3, tms_zero, xz] at h0
  intro a ha
  rcases List.mem_cons.1 ha with rfl | ha
  ·exact h0
  ·exact hp a ha
theorem eq_of_zeros : ∀ l m : List R, Tr l → Tr m → (∀ a ∈ ad l m, a = 0) → l = m
 | [], m, _, hm, h => by
  have := trim_zeros m h
  rw [hm.eq] at this
  exact this.symm
 | a :: l, [], hl, _, h => by
  have := trim_zeros _ h
  rw [ad_nil, hl.eq] at this
  exact this
 | a :: l, b :: m, hl, hm, h => by
  rw [ad_cons] at h
  have h1 := xor_eq_zero (h (a ^^^ b) (by simp))
  have h2 := eq_of_zeros l m hl.tail hm.tail fun c hc => h c (by simp [hc])
  rw [h1, h2]
theorem eq_at {xs l m : List R} (hn : xs.Nodup) (hl : Tr l) (hm : Tr m) (h1 : l.length ≤ xs.length) (h2 : m.length ≤ xs.length) (h : ∀ x ∈ xs, ev l x = ev m x) : l = m :=
 eq_of_zeros l m hl hm (few_roots xs hn (ad l m) (by rw [ad_len]; omega) fun x hx => by rw [ev_ad, h x hx, G6.xs])
def pts : List R := (List.range 256).map (BitVec.ofNat 8)
theorem pts_nodup : pts.Nodup := by decide +kernel
theorem eq_ev {l m : List R} (hl : Tr l) (hm : Tr m) (h1 : l.length ≤ 256) (h2 : m.length ≤ 256) (h : ∀ x, ev l x = ev m x) : l = m :=
 eq_at (xs := pts) pts_nodup hl hm (by simpa [pts] using h1) (by simpa [pts] using h2) fun x _ => h x
end G6
namespace G6
open G5

theorem getD_last (p : List R) (a : R) : (p ++ [a]).getD p.length 0 = a := by simp [List.getD_eq_getElem?_getD]
/-! ### the ring -/
def addL (p q : List R) : List R := trim (ad p q)
def mulL (p q : List R) : List R := trim (ml p q)
theorem addL_tr (p q : List R) : Tr (addL p q) := trim_trim _
theorem mulL_tr (p q : List R) : Tr (mulL p q) := trim_trim _
theorem addL_len (p q : List R) : (addL p q).length ≤ max p.length q.length := by have := trim_len (ad p q); rw [ad_len] at this; exact this
theorem mulL_len (p q : List R) : (mulL p q).length ≤ p.length + q.length := Nat.le_trans (trim_len _) (ml_len p q)
theorem ev_addL (p q : List R) (x : R) : ev (addL p q) x = ev p x ^^^ ev q x := by rw [addL, ev_trim, ev_ad]
theorem ev_mulL (p q : List R) (x : R) : ev (mulL p q) x = tms (ev p x) (ev q x) := by rw [mulL, ev_trim, ev_ml]
/-! ### division -/
structure Dvd (p q d r : List R) : Prop where
 td : Tr d
 tr : Tr r
 lt : r.length < (trim q).length
 ld : d.length ≤ p.length
 eqn : ∀ x, ev p x = tms (ev d x) (ev q x) ^^^ ev r x
theorem Tr_lin (c : R) : Tr [c, 1] := Tr.snoc one_ne [c]
theorem ev_lin (c x : R) : ev [c, 1] x = c ^^^ x := by rw [ev_cons, ev_one, tms_one]
/-! ### the derivative -/
def dr : List R → List R
 | [] => []
 | [b] => [b]
 | b :: _ :: p => b :: 0 :: dr p
def de : List R → List R
 | [] => []
 | _ :: p => dr p
def dv : List R → R → R
 | [], _ => 0
 | _ :: p, x => ev p x ^^^ tms x (dv p x)
theorem dv_cons (a : R) (p : List R) (x : R) : dv (a :: p) x = ev p x ^^^ tms x (dv p x) := rfl
theorem ev_dr : ∀ (p : List R) (x : R), ev (dr p) x = ev p x ^^^ tms x (dv p x)
 | [], x => by
  show (0 : R) = 0 ^^^ tms x 0
  rw [tms_zero, xs]
 | [b], x => by
  show ev [b] x = ev [b] x ^^^ tms x (0 ^^^ tms x 0)
  rw [tms_zero, xs, tms_zero, xz]
 | b :: c :: p, x => by
  show b ^^^ tms x (0 ^^^ tms x (ev (dr p) x)) = (b ^^^ tms x (c ^^^ tms x (ev p x))) ^^^ tms x ((c ^^^ tms x (ev p x)) ^^^ tms x (ev p x ^^^ tms x (dv p x)))
  rw [ev_dr p x, zx]
  simp only [tms_b]
  simp only [BitVec.xor_assoc, BitVec.xor_comm, xac, xcan, xs, xz, zx]
theorem ev_de : ∀ (p : List R) (x : R), ev (de p) x = dv p x
 | [], x => rfl
 | a :: p, x => ev_dr p x
theorem dr_len : ∀ p : List R, (dr p).length = p.length
 | [] => rfl
 | [b] => rfl
 | b :: c :: p => by
  show (b :: 0 :: dr p).length = _
  simp [dr_len p]
theorem de_len (p : List R) : (de p).length = p.length - 1 := by
 cases p with
 | nil => rfl
 | cons a p => exact dr_len p
theorem dr_get : ∀ (p : List R) (i : Nat), (dr p).getD i 0 = if i % 2 = 0 then p.getD i 0 else 0
 | [], i => by simp [dr]
 | [b], 0 => rfl
 | [b], i + 1 => by simp [dr]
 | b :: c :: p, 0 => rfl
 | b :: c :: p, 1 => rfl
 | b :: c :: p, i + 2 => by
  show (dr p).getD i 0 = _
  rw [dr_get p i, show (i + 2) % 2 = i % 2 by omega]
  rfl
theorem de_get (p : List R) (i : Nat) : (de p).getD i 0 = if (i + 1) % 2 = 1 then p.getD (i + 1) 0 else 0 := by
 cases p with
 | nil => simp [de]
 | cons a p =>
  show (dr p).getD i 0 = _
  rw [dr_get p i]
  by_cases h : i % 2 = 0
  ·rw [if_pos h, if_pos (by omega)]
   rfl
  ·rw [if_neg h, if_neg (by omega)]
theorem dv_ad : ∀ (p q : List R) (x : R), dv (ad p q) x = dv p x ^^^ dv q x
 | [], q, x => by rw [nil_ad]; show _ = 0 ^^^ _; rw [zx]
 | a :: p, [], x => by rw [ad_nil]; show _ = _ ^^^ 0; rw [xz]
 | a :: p, b :: q, x => by
  rw [ad_cons, dv_cons, dv_cons, dv_cons, dv_ad p q x, ev_ad, tms_b]
  simp only [BitVec.xor_assoc, BitVec.xor_comm, xac, xcan, xs, xz, zx]
theorem dv_sc (c : R) : ∀ (p : List R) (x : R), dv (sc c p) x = tms c (dv p x)
 | [], x => by show (0 : R) = tms c 0; rw [tms_zero]
 | a :: p, x => by
  show ev (sc c p) x ^^^ tms x (dv (sc c p) x) = tms c (ev p x ^^^ tms x (dv p x))
  rw [ev_sc, dv_sc c p x, tms_b, tac]
theorem dv_ml : ∀ (p q : List R) (x : R), dv (ml p q) x = tms (dv p x) (ev q x) ^^^ tms (ev p x) (dv q x)
 | [], q, x => by
  show (0 : R) = tms 0 (ev q x) ^^^ tms 0 (dv q x)
  rw [zero_tms, zero_tms, xs]
 | a :: p, q, x => by
  rw [show ml (a :: p) q = ad (sc a q) (0 :: ml p q) from rfl, dv_ad, dv_sc, dv_cons, dv_cons, ev_ml, dv_ml p q x, ev_cons]
  simp only [tms_a, tms_b, tms_assoc]
  simp only [BitVec.xor_assoc, BitVec.xor_comm, xac, xcan, xs, xz, zx]
theorem dv_zeros : ∀ (p : List R) (x : R), (∀ a ∈ p, a = 0) → dv p x = 0
 | [], _, _ => rfl
 | a :: p, x, h => by
  have hp : ∀ b ∈ p, b = 0 := fun b hb => h b (by simp [hb])
  have := ev_trim p x
  rw [trim_zeros p hp] at this
  rw [dv_cons, ← this, dv_zeros p x hp, ev_nil, tms_zero, xs]
theorem dv_trim : ∀ (p : List R) (x : R), dv (trim p) x = dv p x
 | [], x => rfl
 | a :: p, x => by
  unfold trim
  split
  ·rename_i h
   have hp := zeros_of_trim p h
   have e := ev_trim p x
   rw [h] at e
   rw [dv_cons, ← e, dv_zeros p x hp, ev_nil, tms_zero, xs]
   split
   ·rfl
   ·show ev [] x ^^^ tms x (dv [] x) = 0
    show (0 : R) ^^^ tms x 0 = 0
    rw [tms_zero, xs]
  ·rw [dv_cons, dv_cons, ev_trim, dv_trim p x]
def derL (p : List R) : List R := trim (de p)
theorem derL_tr (p : List R) : Tr (derL p) := trim_trim _
theorem derL_len (p : List R) : (derL p).length ≤ p.length := by have := trim_len (de p); rw [de_len] at this; unfold derL; omega
theorem ev_derL (p : List R) (x : R) : ev (derL p) x = dv p x := by rw [derL, ev_trim, ev_de]
/-! ### products of linear factors -/
def prodL (l : List R) : List R := l.foldl (fun p r => mulL p [r, 1]) [1]
theorem prodL_snoc (l : List R) (r : R) : prodL (l ++ [r]) = mulL (prodL l) [r, 1] := by simp [prodL]
theorem prod_from : ∀ (l p : List R), Tr p → p ≠ [] → Tr (l.foldl (fun p r => mulL p [r, 1]) p) ∧ (l.foldl (fun p r => mulL p [r, 1]) p).length = p.length + l.length ∧
  ∀ x, (ev (l.foldl (fun p r => mulL p [r, 1]) p) x = 0 ↔ ev p x = 0 ∨ x ∈ l)
 | [], p, h, _ => ⟨h, rfl, fun x => by simp⟩
 | r :: l, p, h, h0 => by
  obtain ⟨t1, t2⟩ := Tr.ml h (Tr_lin r) h0 (by simp)
  have e : mulL p [r, 1] = ml p [r, 1] := t1.eq
  have hl : (mulL p [r, 1]).length = p.length + 1 := by rw [e]; simp at t2; omega
  obtain ⟨i1, i2, i3⟩ := prod_from l (mulL p [r, 1]) (mulL_tr _ _) (fun e => by rw [e] at hl; simp at hl)
  refine ⟨i1, by rw [List.foldl_cons, i2, hl, List.length_cons]; omega, fun x => ?_⟩
  rw [List.foldl_cons, i3 x, ev_mulL, ev_lin, tms_zero_iff, xor_zero_iff, List.mem_cons]
  constructor
  ·rintro ((h | h) | h)
   ·exact .inl h
   ·exact .inr (.inl h.symm)
   ·exact .inr (.inr h)
  ·rintro (h | h | h)
   ·exact .inl (.inl h)
   ·exact .inl (.inr h.symm)
   ·exact .inr h
theorem prodL_tr (l : List R) : Tr (prodL l) := (prod_from l [1] (Tr.snoc one_ne []) (by simp)).1
theorem prodL_len (l : List R) : (prodL l).length = l.length + 1 := by
 have := (prod_from l [1] (Tr.snoc one_ne []) (by simp)).2.1
 unfold prodL
 rw [this]
 simp
 omega
theorem prodL_zero (l : List R) (x : R) : ev (prodL l) x = 0 ↔ x ∈ l := by
 have := (prod_from l [1] (Tr.snoc one_ne []) (by simp)).2.2 x
 unfold prodL
 rw [this, ev_one]
 constructor
 ·rintro (h | h)
  ·exact absurd h one_ne
  ·exact h
 ·exact fun h => .inr h
end G6
namespace G6
open G5
open Go.RowKit Mem

def rs (l : List R) : List Value := l.map fun x => bv x
theorem rs_len (l : List R) : (rs l).length = l.length := by simp [rs]
theorem rs_snoc (l : List R) (a : R) : rs (l ++ [a]) = rs l ++ [bv a] := by simp [rs]
theorem rs_append (l m : List R) : rs (l ++ m) = rs l ++ rs m := by simp [rs]
theorem rs_one (l : List R) : ∀ u ∈ rs l, u.oneCell' = true := by
 intro u hu
 obtain ⟨x, _, rfl⟩ := List.mem_map.1 hu
 rfl
theorem rs_get (l : List R) (j : Nat) (h : j < (rs l).length) : (rs l)[j] = bv (l.getD j 0) := by
 have h' : j < l.length := by rwa [rs_len] at h
 simp [rs, List.getD_eq_getElem?_getD, List.getElem?_eq_getElem h']
theorem take_snoc (l : List R) (j : Nat) (h : j < l.length) : l.take (j + 1) = l.take j ++ [l.getD j 0] := by
 rw [List.take_succ_eq_append_getElem h]
 simp [List.getD_eq_getElem?_getD, List.getElem?_eq_getElem h]
theorem getD_far (l : List R) (j : Nat) (h : l.length ≤ j) : l.getD j 0 = 0 := by
 simp [List.getD_eq_getElem?_getD, List.getElem?_eq_none h]

structure IsSl (w : World) (A : Option Addr) (cap : Nat) (l : List R) : Prop where
 hle : l.length ≤ cap
 hcap : cap ≤ 9223372036854775807
 hnil : A = none → cap = 0
 rd : Rd w A (rs l)
theorem IsSl.below {w w' : World} {A : Option Addr} {cap : Nat} {l : List R} (h : IsSl w A cap l) (k : Below w.heap.size w w') : IsSl w' A cap l := ⟨h.hle, h.hcap, h.hnil, h.rd.below k⟩
theorem IsSl.no (w : World) : IsSl w none 0 [] := ⟨Nat.le_refl _, by decide, fun _ => rfl, fun j h => by simp [rs] at h⟩
theorem IsSl.read {w : World} {A : Option Addr} {cap : Nat} {l : List R} (h : IsSl w A cap l) (j : Nat) (hj : j < l.length) :
  ∃ b o : Nat, A = some ⟨b, o, none⟩ ∧ b < w.heap.size ∧ w.cell? ⟨b, o + j, none⟩ = some (bv (l.getD j 0)) := by
 obtain ⟨b, o, e, hb, hc⟩ := h.rd j (by rw [rs_len]; exact hj)
 rw [rs_get] at hc
 exact ⟨b, o, e, hb, hc⟩
theorem IsSl.of_own {w : World} {base cap n : Nat} {e : TypeId} {A : Option Addr} {l : List R} (h : w.ownsRow base e 1 (.slice A n cap) n (rs l)) : IsSl w A cap l ∧ l.length = n := by
 have hl : l.length = n := by have := h.1; rw [rs_len] at this; omega
 obtain ⟨A', cap', hv, h1, h2⟩ := own_slice h
 injection hv with e1 e2 e3
 subst e1 e3
 refine ⟨⟨by omega, h2, fun hA => ?_, Rd.of_own h⟩, hl⟩
 subst hA
 rcases h.2 with ⟨h0, _⟩ | ⟨g, cap', cur, hv, _⟩
 ·injection h0
 ·injection hv with hv
  cases hv
theorem IsSl.made (w : World) (e : TypeId) (l : List R) (cs : Array Value) (N n : Nat) (h : cs.toList = rs l) (hN : w.heap.size = N) (hn : l.length = n) (hb : n ≤ 9223372036854775807) : IsSl (w.alloc (.cells cs e)) (some ⟨N, 0, none⟩) n l := by
 subst hN hn
 refine ⟨Nat.le_refl _, hb, (fun h => by cases h), fun j hj => ⟨w.heap.size, 0, rfl, by simp, ?_⟩⟩
 rw [World.cell?_alloc_new, Nat.zero_add]
 have hj' : j < cs.toList.length := by rw [h]; exact hj
 have hj2 : j < cs.size := by simpa using hj'
 simp only [Array.getElem?_eq_getElem hj2]
 congr 1
 have : cs.toList[j] = (rs l)[j] := by simp only [h]
 simpa using this

def u8s (l : List R) : List UInt8 := l.map UInt8.ofBitVec
theorem u8s_len (l : List R) : (u8s l).length = l.length := by simp [u8s]
theorem conv_sl {P : Program} {w : World} {cap n : Nat} {src dst e : TypeId} {A : Option Addr} {l : List R} (hs : P.underlying src = some (.slice e)) (he : P.underlying e = some (.int .u8)) (hd : P.underlying dst = some .string)
  (h : IsSl w A cap l) (hn : l.length = n) : (convert src dst (.slice A n cap)).run P w = .ok (.string ⟨(u8s l).toArray⟩) w := by
 subst hn
 rcases A with _ | a
 ·have hc := h.hnil rfl
  have hl := h.hle
  obtain rfl : l = [] := List.eq_nil_of_length_eq_zero (by omega)
  subst hc
  rw [run_convert_bytes_string w src dst e none _ 0 hs he hd]
  rfl
 ·rw [← u8s_len l]
  refine run_convert_bytes_back w src dst e a cap (u8s l) hs he hd fun j hj => ?_
  rw [u8s_len] at hj
  obtain ⟨b, o, e, _, hc⟩ := h.read j hj
  injection e with e
  subst e
  have : (⟨b, o, none⟩ : Addr).add j = ⟨b, o + j, none⟩ := by
   by_cases h0 : j = 0
   ·subst h0; rfl
   ·simp [Addr.add, h0]
  rw [this, hc]
  simp [u8s, List.getD_eq_getElem?_getD, List.getElem?_eq_getElem hj]
theorem info_byte : (Tryz.prog.info? 5).map (fun i => (i.zero, i.size, i.bytes)) = some (some (.int .u8 0), 1, 1) := by kernel_rfl

def Gives (w : World) (l : List R) (e : Ending) (w' : World) : Prop := ∃ A c, e = .returned (.slice A l.length c) ∧ IsSl w' A c l ∧ Below w.heap.size w w'
theorem rd_take {w : World} {A : Option Addr} {l : List R} (h : Rd w A (rs l)) (n : Nat) : Rd w A (rs (l.take n)) := fun j hj => by
 have hj' : j < (rs l).length := by rw [rs_len, List.length_take] at hj; rw [rs_len]; omega
 obtain ⟨b, o, e, hb, hc⟩ := h j hj'
 refine ⟨b, o, e, hb, hc.trans ?_⟩
 congr 1
 simp [rs]

theorem make_zeros (w : World) (n : Nat) (h : n ≤ 1000000) : (Instr.makeSlice 53 (.int .i64 (n : Int)) (.int .i64 (n : Int))).run Tryz.prog w = .ok (.slice (some ⟨w.heap.size, 0, none⟩) n n) (w.alloc (.cells (madeCells #[.int .u8 0] n) 5)) := by
 obtain ⟨i0, hi, hz0, hz1, hz2⟩ := info_parts info_byte
 have hr := run_make (P := Tryz.prog) w 53 5 i0 (.int .u8 0) Tryz.underlying53 hi hz0 .i64 .i64 (n : Int) (n : Int) (by omega) (Int.le_refl _) (by rw [hz2]; omega) (by omega)
 rw [hz1, Nat.mul_one, show (Value.int .u8 0).cells = #[.int .u8 0] from rfl] at hr
 simp only [Int.toNat_natCast] at hr
 exact hr
theorem own_zeros (w : World) (n : Nat) (h : n ≤ 1000000) : (w.alloc (.cells (madeCells #[.int .u8 0] n) 5)).ownsRow w.heap.size 5 1 (.slice (some ⟨w.heap.size, 0, none⟩) n n) n (rs (List.replicate n 0#8)) := by
 have hz := World.ownsRow_lit (base := w.heap.size) (e := 5) (size := 1) w (madeCells #[.int .u8 0] n) n (Nat.le_refl _) (by unfold maxLen; omega) (by rw [← Array.length_toList, toList_madeCells_one]; simp)
 rw [toList_madeCells_one] at hz
 have e : List.replicate n (Value.int .u8 0) = rs (List.replicate n 0) := by
  unfold rs
  rw [List.map_replicate]
  rfl
 rw [e] at hz
 exact hz
theorem IsSl.drewN {w : World} {A : Option Addr} {c : Nat} {l : List R} (h : IsSl w A c l) (n : Nat) : IsSl (w.drewN n) A c l := ⟨h.hle, h.hcap, h.hnil, h.rd.drewN n⟩
theorem wrap_pred {n j : Nat} (h : n = j + 1) (hb : n ≤ 1000) : IntKind.i64.wrap ((n : Int) - 1) = (j : Int) := by
 subst h
 rw [show (((j + 1 : Nat) : Int) - 1) = (j : Int) by omega, IntKind.wrap_i64]
 omega
def lenOf : Value → Nat
 | .slice _ n _ => n
 | _ => 0
theorem mb (w : World) (o : Obj) : Below w.heap.size w (w.alloc o) := (Below.refl _ _).alloc (Nat.le_refl _) _
theorem ev_step (p : List R) (j : Nat) (h : j < p.length) (x : R) : ev (p.take (j + 1)) x = ev (p.take j) x ^^^ tms (p.getD j 0) (pw x j) := by
 rw [take_snoc p j h, ev_snoc, List.length_take, Nat.min_eq_left (by omega), tms_comm]

end G6
namespace G6
open G5
open Go.RowKit Mem

theorem rs_set (l : List R) (k : Nat) (c : R) : rs (l.set k c) = (rs l).set k (bv c) := by simp [rs, List.map_set]
theorem VAt.setR {w : World} {g : Nat} {l : List R} (h : VAt w g (rs l)) {k : Nat} (hk : k < l.length) (c : R) : VAt (w.setCell ⟨g, k, none⟩ (bv c)) g (rs (l.set k c)) := by
 rw [rs_set]
 exact VAt.set h (by rw [rs_len]; exact hk) _
theorem VAt.readR {w : World} {g : Nat} {l : List R} (h : VAt w g (rs l)) {k : Nat} (hk : k < l.length) : w.cell? ⟨g, k, none⟩ = some (bv (l.getD k 0)) ∧ w.frozen? ⟨g, k, none⟩ = false := by
 have := h k (by rw [rs_len]; exact hk)
 rw [rs_get] at this
 exact this
theorem IsSl.of_at {w : World} {g n : Nat} {l : List R} (h : VAt w g (rs l)) (hl : l.length = n) (hn : n ≤ 9223372036854775807) (hg : g < w.heap.size) : IsSl w (some ⟨g, 0, none⟩) n l := by
 subst hl
 exact ⟨Nat.le_refl _, hn, (fun h => by cases h), fun j hj => ⟨g, 0, rfl, hg, by rw [Nat.zero_add]; exact (h j hj).1⟩⟩
theorem zeros_at (w : World) (n : Nat) (hn : n ≤ 1000000) : VAt (w.alloc (.cells (madeCells #[.int .u8 0] n) 5)) w.heap.size (rs (List.replicate n 0#8)) := VAt.of_own (own_zeros w n hn)
theorem IsSl.front {w : World} {A : Option Addr} {c : Nat} {l m : List R} (h : IsSl w A c l) (n : Nat) (hm : l.take n = m) : IsSl w A c m := by
 subst hm
 exact ⟨by have := h.hle; rw [List.length_take]; omega, h.hcap, h.hnil, rd_take h.rd n⟩
theorem trim_take : ∀ l : List R, l.take (trim l).length = trim l
 | [] => rfl
 | a :: l => by
  have ih := trim_take l
  have e : trim (a :: l) = (if trim l = [] then (if a = 0 then [] else [a]) else a :: trim l) := rfl
  rw [e]
  by_cases h : trim l = []
  ·rw [if_pos h]
   by_cases h0 : a = 0
   ·rw [if_pos h0]; rfl
   ·rw [if_neg h0]; rfl
  ·rw [if_neg h, List.length_cons, List.take_succ_cons, ih]
theorem eq_getD {l m : List R} (hl : l.length = m.length) (h : ∀ j, j < l.length → l.getD j 0 = m.getD j 0) : l = m := by
 refine List.ext_getElem hl fun j h1 h2 => ?_
 have := h j h1
 simpa [List.getD_eq_getElem?_getD, List.getElem?_eq_getElem h1, List.getElem?_eq_getElem h2] using this
theorem getD_set (l : List R) (k j : Nat) (c : R) (hk : k < l.length) : (l.set k c).getD j 0 = if j = k then c else l.getD j 0 := by
 by_cases h : j = k
 ·subst h
  rw [if_pos rfl]
  simp [List.getD_eq_getElem?_getD, List.getElem?_set_self, hk]
 ·rw [if_neg h]
  simp [List.getD_eq_getElem?_getD, List.getElem?_set_ne (Ne.symm h)]
theorem getD_zeros (n j : Nat) : (List.replicate n 0#8).getD j 0 = 0 := by
 by_cases h : j < n
 ·simp [List.getD_eq_getElem?_getD, List.getElem?_replicate, h]
 ·exact getD_far _ _ (by simp; omega)
theorem getD_app (l m : List R) (j : Nat) : (l ++ m).getD j 0 = if j < l.length then l.getD j 0 else m.getD (j - l.length) 0 := by
 by_cases h : j < l.length
 ·rw [if_pos h]
  simp [List.getD_eq_getElem?_getD, List.getElem?_append_left h]
 ·rw [if_neg h]
  simp [List.getD_eq_getElem?_getD, List.getElem?_append_right (by omega : l.length ≤ j)]
theorem getD_take (l : List R) (n j : Nat) : (l.take n).getD j 0 = if j < n then l.getD j 0 else 0 := by
 by_cases h : j < n
 ·rw [if_pos h]
  simp [List.getD_eq_getElem?_getD, List.getElem?_take, h]
 ·rw [if_neg h]
  exact getD_far _ _ (by rw [List.length_take]; omega)
theorem ev_set (x c : R) : ∀ (l : List R) (i : Nat), i < l.length → ev (l.set i c) x = ev l x ^^^ tms (pw x i) (l.getD i 0 ^^^ c)
 | [], i, h => by simp at h
 | a :: l, 0, _ => by
  show c ^^^ tms x (ev l x) = (a ^^^ tms x (ev l x)) ^^^ tms 1 (a ^^^ c)
  rw [one_tms]
  simp only [BitVec.xor_assoc, BitVec.xor_comm, xac, xcan, xs, xz, zx]
 | a :: l, i + 1, h => by
  show a ^^^ tms x (ev (l.set i c) x) = (a ^^^ tms x (ev l x)) ^^^ tms (tms (pw x i) x) (l.getD i 0 ^^^ c)
  rw [ev_set x c l i (by simpa using h), tms_b, BitVec.xor_assoc, tms_comm (pw x i) x, tms_assoc]
theorem ad_zeros (l : List R) (n : Nat) : ∀ j, (l ++ List.replicate n 0#8).getD j 0 = l.getD j 0 := fun j => by
 rw [getD_app]
 by_cases h : j < l.length
 ·rw [if_pos h]
 ·rw [if_neg h, getD_zeros, getD_far _ _ (by omega)]
theorem nz_el (x : R) : ((x.toNat : Int) != 0) = !(x == 0#8) := by rw [bne, bv_eq1 x 0#8 |> (show ((x.toNat : Int) == 0) = (x == 0#8) from ·)]
theorem z_el (x : R) : ((x.toNat : Int) == 0) = (x == 0#8) := bv_eq1 x 0#8

theorem at_of_heap {w : World} {g : Nat} {e : TypeId} {l : List R} (h : w.heap[g]? = some (.cells (rs l).toArray e (0, 0))) : VAt w g (rs l) ∧ g < w.heap.size := by
 refine ⟨fun j hj => ?_, (Array.getElem?_eq_some_iff.1 h).1⟩
 constructor <;> simp [World.cell?, World.frozen?, h, List.getElem?_eq_getElem hj]
theorem make_as (w : World) (m n : Nat) (e : m = n) (h : n ≤ 1000000) : (Instr.makeSlice 53 (.int .i64 (m : Int)) (.int .i64 (m : Int))).run Tryz.prog w = .ok (.slice (some ⟨w.heap.size, 0, none⟩) n n) (w.alloc (.cells (madeCells #[.int .u8 0] n) 5)) := by
 subst e
 exact make_zeros w m h
structure Copied (W0 w' : World) (n : Nat) (l : List R) : Prop where
 row : VAt w' W0.heap.size (rs (l.take n ++ List.replicate (n - l.length) 0#8))
 lt : W0.heap.size < w'.heap.size
 below : Below W0.heap.size W0 w'
theorem wpList_copy_made {W0 : World} {ops : Array Oper} {rest : List Oper} {o : Oper} {a : Act} {Q : Exit → Act → World → Prop} (hgd : o.guard = none) (d s : Operand)
  (ho : o.op = .call { callee := .builtin .copy, args := #[d, s], argTypes := #[53, 53] })
  (n : Nat) (A : Option Addr) (nl c : Nat) (l : List R) (hnl : l.length = nl) (hd : a.eval d = .slice (some ⟨W0.heap.size, 0, none⟩) n n) (hs : a.eval s = .slice A nl c) (h : IsSl W0 A c l) (hn : n ≤ 1000000)
  (K : ∀ w' v, Copied W0 w' n l → wpList Tryz.prog ops Q rest (a.put o.dst v) w') :
  wpList Tryz.prog ops Q (o :: rest) a (W0.alloc (.cells (madeCells #[.int .u8 0] n) 5)) := by
 subst hnl
 have hz : (madeCells #[.int .u8 0] n) = (rs (List.replicate n 0#8)).toArray := by
  have e1 : (madeCells #[.int .u8 0] n).toList.toArray = madeCells #[.int .u8 0] n := Array.toArray_toList
  rw [← e1, toList_madeCells_one]
  congr 1
  unfold rs
  rw [List.map_replicate]
  rfl
 have hg : (W0.alloc (.cells (madeCells #[.int .u8 0] n) 5)).heap[W0.heap.size]? = some (.cells (rs (List.replicate n 0#8)).toArray 5 (0, 0)) := by rw [← hz]; exact heap_alloc_new W0 _
 obtain ⟨i0, hi, hz0, hz1, hz2⟩ := info_parts info_byte
 have hll : (l.take n).length = min l.length n := by rw [List.length_take, Nat.min_comm]
 refine wpList_copy_splice hgd d s 53 53 ho 5 Tryz.underlying53 (by rw [hi]; exact congrArg some hz1) _ _ n n l.length c hd hs W0.heap.size 0 (rs (List.replicate n 0#8)) 5 hg (rs (l.take n)) (by rw [rs_len, hll]) (fun hpos => ⟨rfl, ?_⟩) (by rw [rs_len, rs_len, hll, List.length_replicate]; exact (Nat.zero_add _).symm ▸ Nat.min_le_right _ _) (rs_one _) W0.heap.size W0 ((Below.refl _ _).alloc (Nat.le_refl _) _) (Nat.le_refl _) fun w' hw hb => ?_
 ·rw [rs_len, hll] at hpos
  obtain ⟨b, o', rfl, hbl, _⟩ := h.read 0 (by omega)
  refine ⟨_, rfl, fun j v hj => ?_⟩
  have hj' : j < (rs (l.take n)).length := (List.getElem?_eq_some_iff.1 hj).1
  have hjl : j < l.length := by rw [rs_len, hll] at hj'; omega
  obtain ⟨b2, o2, hA, hbl2, hc⟩ := (h.below ((Below.refl _ _).alloc (Nat.le_refl _) (.cells (madeCells #[.int .u8 0] n) 5))).read j hjl
  injection hA with hA
  injection hA with hA1 hA2
  subst hA1 hA2
  have : (⟨b, o', none⟩ : Addr).add j = ⟨b, o' + j, none⟩ := by
   by_cases h0 : j = 0
   ·subst h0; rfl
   ·simp [Addr.add, h0]
  rw [this, hc]
  rw [List.getElem?_eq_getElem hj', rs_get] at hj
  injection hj with hj
  rw [← hj, getD_take, if_pos (by rw [rs_len, hll] at hj'; omega)]
 ·have hw := hw.out
  have e : splice (rs (List.replicate n 0#8)) 0 (rs (l.take n)) = rs (l.take n ++ List.replicate (n - l.length) 0#8) := by
   unfold splice
   rw [rs_append, rs_len, hll, List.take_zero, List.nil_append, Nat.zero_add]
   congr 1
   unfold rs
   rw [← List.map_drop, List.drop_replicate]
   congr 2
   omega
  rw [e] at hw
  exact K w' _ ⟨(at_of_heap hw).1, (at_of_heap hw).2, hb⟩
end G6
namespace G6
open G5
open Go.RowKit Mem

set_option maxHeartbeats 1000000 in
theorem size_own {A : Option Addr} {c : Nat} {l : List R} {w : World} (h : IsSl w A c l) (hl : l.length ≤ 1000000) :
  Calls Tryz.prog 153 #[.slice A l.length c] w fun e w' => e = .returned (.int .i64 ((trim l).length : Int)) ∧ w = w' := by
 have hsh := Lib.hid h
 clear h
 go_enter Tryz.func153, Tryz.ntmps153
 go_wp2
 go_loop [3, 7] (fun n i => ∃ k m : Nat, k ≤ l.length ∧ i = .int .i64 k ∧ n = .int .i64 m ∧ m ≤ k ∧ Hid ((trim (l.take k)).length = m)) (fun _ i => l.length - (intOf i).toNat)
 case atStart => exact ⟨0, 0, Nat.zero_le _, rfl, rfl, Nat.le_refl _, Lib.hid rfl⟩
 case round =>
  obtain ⟨k, m, hk, rfl, rfl, hmk, hm⟩ := hrel
  by_cases hlt : k < l.length
  ·obtain ⟨b, o, rfl, hb, hc⟩ := hsh.out.read k hlt
   have hts := take_snoc l k hlt
   obtain ⟨X, hX⟩ : ∃ X, l.getD k 0 = X := ⟨_, rfl⟩
   rw [hX] at hc hts
   have hi : (k : Int) < (l.length : Int) := by omega
   rcases hz : (X == 0#8) with _ | _
   ·have t1 : ((X.toNat : Int) != 0) = true := by rw [nz_el, hz]; rfl
    have hm2 := Lib.hid (show (trim (l.take (k + 1))).length = k + 1 by rw [hts, trim_snoc (by simpa using hz)]; simp; omega)
    clear hz hX hts
    go_wp2
    go_round
    case rel => exact ⟨k + 1, k + 1, by omega, by go_num, by go_num, Nat.le_refl _, hm2⟩
    case measure => simp [intOf]; omega
   ·have t1 : ((X.toNat : Int) != 0) = false := by rw [nz_el, hz]; rfl
    have hm2 := Lib.hid (show (trim (l.take (k + 1))).length = m by rw [hts, show X = 0 by simpa using hz, trim_snoc0]; exact hm.out)
    clear hz hX hts
    go_wp2
    go_round
    case rel => exact ⟨k + 1, m, by omega, by go_num, rfl, by omega, hm2⟩
    case measure => simp [intOf]; omega
  ·have hfin := Lib.hid (show (trim l).length = m by rw [← hm.out, List.take_of_length_le (by omega)])
   have hi : ¬ (k : Int) < (l.length : Int) := by omega
   go_wp2
   go_ret
   exact ⟨by rw [hfin.out]; rfl, rfl⟩

set_option maxHeartbeats 1000000 in
theorem trim_row {A : Option Addr} {c : Nat} {l : List R} {w : World} (h : IsSl w A c l) (hl : l.length ≤ 1000) :
  Calls Tryz.prog 152 #[.slice A l.length c] w fun e w' => e = .returned (.slice (some ⟨w.heap.size, 0, none⟩) (trim l).length (trim l).length) ∧ VAt w' w.heap.size (rs (trim l)) ∧ w.heap.size < w'.heap.size ∧ Below w.heap.size w w' := by
 have hsh := Lib.hid h
 have cc := size_own h (by omega)
 have hnl := trim_len l
 obtain ⟨n, hn⟩ : ∃ n, (trim l).length = n := ⟨_, rfl⟩
 rw [hn] at cc hnl
 have hnh := Lib.hid hn
 have cc := Lib.hid cc
 have hmk := make_zeros w n (by omega)
 clear h hn
 go_enter Tryz.func152, Tryz.ntmps152
 go_wp2_with fail
 refine cc.out.mono ?_
 rintro e w1 ⟨rfl, rfl⟩
 have hn1000 : n ≤ 1000000 := by omega
 go_wp2_with (with_reducible refine wpList_copy_made rfl (.tmp 7) (.tmp 8) rfl n A _ c l rfl rfl rfl hsh.out hn1000 ?_)
 intro w1 v hcp
 clear hmk
 go_wp2
 go_ret
 have e : l.take n ++ List.replicate (n - l.length) 0#8 = trim l := by
  rw [← hnh.out, trim_take, show (trim l).length - l.length = 0 by have := trim_len l; omega]
  simp
 have hat := hcp.row
 rw [e] at hat
 exact ⟨by rw [hnh.out]; rfl, hat, hcp.lt, hcp.below⟩

theorem trim_own {A : Option Addr} {c : Nat} {l : List R} {w : World} (h : IsSl w A c l) (hl : l.length ≤ 1000) :
  Calls Tryz.prog 152 #[.slice A l.length c] w (Gives w (trim l)) :=
 (trim_row h hl).mono fun e w' ⟨h1, h2, h3, h4⟩ => ⟨_, _, h1, IsSl.of_at h2 rfl (by have := trim_len l; omega) h3, h4⟩

theorem ev_drop (l : List R) (J : Nat) (h : J < l.length) (x : R) : ev (l.drop J) x = l.getD J 0 ^^^ tms x (ev (l.drop (J + 1)) x) := by
 rw [List.drop_eq_getElem_cons h, ev_cons]
 simp [List.getD_eq_getElem?_getD, List.getElem?_eq_getElem h]

set_option maxHeartbeats 1000000 in
theorem eval_own {A : Option Addr} {c : Nat} {l : List R} {w : World} (x : R) (h : IsSl w A c l) (hl : l.length ≤ 1000) :
  Calls Tryz.prog 169 #[.slice A l.length c, bv x] w fun e w' => e = .returned (bv (ev l x)) ∧ ∃ n, w' = w.drewN n := by
 have hsh := Lib.hid h
 clear h
 obtain ⟨nl, hnl⟩ : ∃ nl, l.length = nl := ⟨_, rfl⟩
 rw [hnl] at hl ⊢
 have hnlh := Lib.hid hnl
 clear hnl
 go_enter Tryz.func169, Tryz.ntmps169
 go_wp2
 go_loopw [5, 9] (fun s i wr => ∃ (k : Nat) (S : R), k ≤ nl ∧ i = .int .i64 k ∧ s = bv S ∧ Hid (S = ev (l.drop (nl - k)) x) ∧ Hid (∃ n, wr = w.drewN n) ∧ Hid (IsSl wr A c l)) (fun _ i _ => nl - (intOf i).toNat)
 case atStart => exact ⟨0, 0, Nat.zero_le _, rfl, rfl, Lib.hid (by rw [List.drop_of_length_le (by have := hnlh.out; omega)]; rfl), Lib.hid ⟨0, rfl⟩, hsh⟩
 case round =>
  obtain ⟨k, S, hk, rfl, rfl, hS, hw, hsl⟩ := hrel
  by_cases hlt : k < nl
  ·obtain ⟨M, hM⟩ : ∃ M, nl = M + 1 := ⟨nl - 1, by omega⟩
   obtain ⟨J, hJ⟩ : ∃ J, M = J + k := ⟨M - k, by omega⟩
   have hJl : J < l.length := by have := hnlh.out; omega
   obtain ⟨b, o, rfl, hb, hc⟩ := hsl.out.read J hJl
   have he := ev_drop l J hJl x
   rw [show J + 1 = nl - k by omega, ← hS.out] at he
   obtain ⟨X, hX⟩ : ∃ X, l.getD J 0 = X := ⟨_, rfl⟩
   rw [hX] at hc he
   have cM := fun W => (mul_own S x W).mono fun _ _ ⟨a, b⟩ => And.intro a b.symm
   obtain ⟨T, hT⟩ : ∃ T, tms S x = T := ⟨_, rfl⟩
   rw [tms_comm x S, hT, BitVec.xor_comm] at he
   rw [hT] at cM
   have cA := fun W => (add_own T X W).mono fun _ _ ⟨a, b⟩ => And.intro a b.symm
   obtain ⟨U, hU⟩ : ∃ U, T ^^^ X = U := ⟨_, rfl⟩
   rw [hU] at cA he
   have hU2 : Hid (U = ev (l.drop (nl - (k + 1))) x) := Lib.hid (by rw [← he]; congr 2; omega)
   have cA := Lib.hid cA
   have cM := Lib.hid cM
   have e1 : (nl : Int) - 1 = (M : Int) := by omega
   have e2 : (M : Int) - (k : Int) = (J : Int) := by omega
   have i0 : (k : Int) < (nl : Int) := by omega
   have i1 : (0 : Int) ≤ (J : Int) := by omega
   have i2 : (J : Int) < (nl : Int) := by omega
   have hM1000 : M ≤ 1000 := by omega
   clear hM hJ hJl hX hT hU he
   go_wp2
   go_quiet ((first | (go_at_call 119; exact Calls.quiet_of_same (cM.out _)) | (go_at_call 118; exact Calls.quiet_of_same (cA.out _))))
   rename_i nq _
   go_wp2
   go_roundw
   case rel => exact ⟨k + 1, U, by omega, by go_num, rfl, hU2, Lib.hid (by obtain ⟨n0, e⟩ := hw.out; exact ⟨n0 + nq, by rw [e, World.drewN_drewN]⟩), Lib.hid (hsl.out.drewN nq)⟩
   case measure => simp [intOf]; omega
  ·have hfin := Lib.hid (show S = ev l x by rw [hS.out, show nl - k = 0 by omega]; rfl)
   have i0 : ¬ (k : Int) < (nl : Int) := by omega
   go_wp2
   go_ret
   exact ⟨by rw [hfin.out]; rfl, hw.out⟩
end G6
namespace G6
open G5
open Go.RowKit Mem

theorem mul_step {m P Q : List R} {k j n i : Nat} {X Y Z : R} (hi : i = k + j) (hm : m.length = n) (hn : i < n) (hj : j < Q.length) (hY : Q.getD j 0 = Y) (hZ : m.getD i 0 = Z)
  (he : ∀ x, ev m x = tms (ev (P.take k) x) (ev Q x) ^^^ tms (tms X (pw x k)) (ev (Q.take j) x)) (x : R) :
  ev (m.set i (Z ^^^ tms X Y)) x = tms (ev (P.take k) x) (ev Q x) ^^^ tms (tms X (pw x k)) (ev (Q.take (j + 1)) x) := by
 rw [ev_set x _ m i (by omega), hZ, xcan, he x, ev_step Q j hj x, hY, tms_b, BitVec.xor_assoc, hi, pw_add]
 congr 2
 simp only [tms_assoc, tms_comm, tac]
theorem mul_row {P Q : List R} {k : Nat} (hk : k < P.length) {X : R} (hX : P.getD k 0 = X) (x : R) :
  tms (ev (P.take k) x) (ev Q x) ^^^ tms (tms X (pw x k)) (ev Q x) = tms (ev (P.take (k + 1)) x) (ev Q x) := by
 rw [ev_step P k hk x, hX, tms_a]

set_option maxHeartbeats 4000000 in
theorem mulP_own {A B : Option Addr} {c d : Nat} {p q : List R} {w : World} (h : IsSl w A c p) (h' : IsSl w B d q) (hpq : p.length + q.length ≤ 200) :
  Calls Tryz.prog 115 #[.slice A p.length c, .slice B q.length d] w (Gives w (mulL p q)) := by
 have cp := trim_own h (by omega)
 have hqh := Lib.hid h'
 have hpl := trim_len p
 have hql := trim_len q
 have hval : ∀ m : List R, m.length ≤ 200 → (∀ x, ev m x = tms (ev (trim p) x) (ev (trim q) x)) → trim m = mulL p q := fun m hm he => by
  have h1 := trim_len m
  have h2 := mulL_len p q
  exact eq_ev (trim_trim m) (mulL_tr p q) (by omega) (by omega) fun x => by rw [ev_trim, he, ev_mulL, ev_trim, ev_trim]
 obtain ⟨P, hP⟩ : ∃ P, trim p = P := ⟨_, rfl⟩
 obtain ⟨Q, hQ⟩ : ∃ Q, trim q = Q := ⟨_, rfl⟩
 have cq := fun (w1 : World) (k : Below w.heap.size w w1) => trim_own (h'.below k) (show q.length ≤ 1000 by omega)
 rw [hP] at cp hpl hval
 rw [hQ] at hql hval cq
 obtain ⟨np, hnp⟩ : ∃ np, P.length = np := ⟨_, rfl⟩
 obtain ⟨nq, hnq⟩ : ∃ nq, Q.length = nq := ⟨_, rfl⟩
 have hval := Lib.hid hval
 have hnph := Lib.hid hnp
 have hnqh := Lib.hid hnq
 rw [hnp] at hpl
 rw [hnq] at hql
 have hb200 : np + nq ≤ 200 := by omega
 have cp := Lib.hid cp
 have cq := Lib.hid cq
 clear h h' hP hQ hnp hnq hpl hql hpq
 go_enter Tryz.func115, Tryz.ntmps115
 go_wp2_with fail
 refine cp.out.mono ?_
 rintro e w1 ⟨A1, c1, rfl, hs1, hb1⟩
 have cq1 := Lib.hid (cq.out w1 hb1)
 rw [hnph.out]
 go_wp2_with fail
 refine cq1.out.mono ?_
 rintro e w2 ⟨A2, c2, rfl, hs2, hb2⟩
 have hsp := Lib.hid (hs1.below hb2)
 have hsq := Lib.hid hs2
 have hbb := Lib.hid (chain hb1 hb2)
 rw [hnqh.out]
 clear hs1 hs2 hb1 hb2 cp cq cq1 hqh
 obtain ⟨n, hn⟩ : ∃ n, np + nq = n := ⟨_, rfl⟩
 have hnI : (np : Int) + (nq : Int) = (n : Int) := by omega
 have hmk := make_zeros w2 n (by omega)
 have hat := zeros_at w2 n (by omega)
 have ob := mb w2 (.cells (madeCells #[.int .u8 0] n) 5)
 have hn200 : n ≤ 200 := by omega
 have hnh := Lib.hid hn
 clear hn
 go_wp2
 clear hmk
 obtain ⟨G, hG⟩ : ∃ G, w2.heap.size = G := ⟨_, rfl⟩
 have hgl : G < (w2.alloc (.cells (madeCells #[.int .u8 0] n) 5)).heap.size := by rw [← hG]; simp
 rw [hG] at hat ⊢
 have hGh := Lib.hid hG
 clear hG
 go_loopw [20] (fun a wr => ∃ (k : Nat) (m : List R), k ≤ np ∧ a = .int .i64 k ∧ Hid (m.length = n ∧ ∀ x, ev m x = tms (ev (P.take k) x) (ev Q x)) ∧ Hid (VAt wr G (rs m)) ∧ Hid (G < wr.heap.size) ∧ Below w2.heap.size w2 wr) (fun a _ => np - (intOf a).toNat)
 case atStart => exact ⟨0, List.replicate n 0#8, Nat.zero_le _, rfl, Lib.hid ⟨by simp, fun x => by rw [List.take_zero, ev_nil, zero_tms]; exact ev_zeros n x⟩, Lib.hid hat, Lib.hid hgl, ob⟩
 case round =>
  clear hat hgl ob
  obtain ⟨k, m, hk, rfl, hm, hat, hgl, hb⟩ := hrel
  by_cases hlt : k < np
  ·have i1 : (k : Int) < (np : Int) := by omega
   obtain ⟨X, hX⟩ : ∃ X, P.getD k 0 = X := ⟨_, rfl⟩
   have hXh := Lib.hid hX
   clear hX
   go_wp2
   go_loopw [25] (fun b wq => ∃ (j : Nat) (m : List R), j ≤ nq ∧ b = .int .i64 j ∧ Hid (m.length = n ∧ ∀ x, ev m x = tms (ev (P.take k) x) (ev Q x) ^^^ tms (tms X (pw x k)) (ev (Q.take j) x)) ∧ Hid (VAt wq G (rs m)) ∧ Hid (G < wq.heap.size) ∧ Below w2.heap.size w2 wq) (fun b _ => nq - (intOf b).toNat)
   case atStart => exact ⟨0, m, Nat.zero_le _, rfl, Lib.hid ⟨hm.out.1, fun x => by rw [hm.out.2 x, List.take_zero, ev_nil, tms_zero, xz]⟩, hat, hgl, hb⟩
   case round =>
    clear hm hat hgl hb
    obtain ⟨j, m, hj, rfl, hm, hat, hgl, hb⟩ := hrel
    by_cases hlj : j < nq
    ·obtain ⟨i, hi⟩ : ∃ i, i = k + j := ⟨_, rfl⟩
     have hin : i < n := by have := hnh.out; omega
     obtain ⟨b1, o1, hA1, hbl1, hc1⟩ := (hsp.out.below hb).read k (by rw [hnph.out]; exact hlt)
     obtain ⟨b2, o2, hA2, hbl2, hc2⟩ := (hsq.out.below hb).read j (by rw [hnqh.out]; exact hlj)
     subst hA1 hA2
     obtain ⟨hn1, hf1⟩ := VAt.readR hat.out (k := i) (by rw [hm.out.1]; exact hin)
     rw [hXh.out] at hc1
     obtain ⟨Y, hY⟩ : ∃ Y, Q.getD j 0 = Y := ⟨_, rfl⟩
     obtain ⟨Z, hZ⟩ : ∃ Z, m.getD i 0 = Z := ⟨_, rfl⟩
     rw [hY] at hc2
     rw [hZ] at hn1
     have hst := mul_step hi hm.out.1 hin (by rw [hnqh.out]; exact hlj) hY hZ hm.out.2
     have cM := fun W => (mul_own X Y W).mono fun _ _ ⟨a, b⟩ => And.intro a b.symm
     obtain ⟨T, hT⟩ : ∃ T, tms X Y = T := ⟨_, rfl⟩
     rw [hT] at cM hst
     have cA := fun W => (add_own Z T W).mono fun _ _ ⟨a, b⟩ => And.intro a b.symm
     obtain ⟨S, hS⟩ : ∃ S, Z ^^^ T = S := ⟨_, rfl⟩
     rw [hS] at cA hst
     have cM := Lib.hid cM
     have cA := Lib.hid cA
     have hat2 := Lib.hid (show VAt (wr.setCell ⟨G, i, none⟩ (bv S)).drew G (rs (m.set i S)) from (VAt.setR hat.out (k := i) (by rw [hm.out.1]; exact hin) S).drew)
     have hgl2 := Lib.hid (show G < (wr.setCell ⟨G, i, none⟩ (bv S)).drew.heap.size by simpa using hgl.out)
     have hb2 := chainN (hb.setCell (p := ⟨G, i, none⟩) (by rw [hGh.out]; exact Nat.le_refl _) (bv S)) 1
     have hst := Lib.hid (And.intro (show (m.set i S).length = n by rw [List.length_set]; exact hm.out.1) hst)
     have j1 : (j : Int) < (nq : Int) := by omega
     have j0 : (0 : Int) ≤ (j : Int) := by omega
     have k0 : (0 : Int) ≤ (k : Int) := by omega
     have e1 : (k : Int) + (j : Int) = (i : Int) := by omega
     have n0 : (0 : Int) ≤ (i : Int) := by omega
     have e2 : IntKind.i64.wrap (i : Int) = (i : Int) := by rw [IntKind.wrap_i64]; omega
     have n1 : (i : Int) < (n : Int) := by omega
     clear hat hgl hm hi hY hZ hT hS
     go_wp2_with fail
     refine wp_region_still_tail 21 (by kernel_rfl) (by kernel_rfl) ?_
     simp only [List.take_succ_cons, List.take_zero, List.drop_succ_cons, List.drop_zero]
     repeat still_step
     still_call (cM.out _)
     still_call (cA.out _)
     repeat still_step
     refine wpStill_nil ?_
     change wpList _ _ _ _ _ wr.drew
     go_wp2
     go_roundw
     case rel => exact ⟨j + 1, m.set i S, by omega, by go_num, hst, hat2, hgl2, hb2⟩
     case measure => simp [intOf]; omega
    ·have j1 : ¬ (j : Int) < (nq : Int) := by omega
     have hm2 := Lib.hid (show m.length = n ∧ ∀ x, ev m x = tms (ev (P.take (k + 1)) x) (ev Q x) from ⟨hm.out.1, fun x => by
      rw [hm.out.2 x, List.take_of_length_le (l := Q) (by have := hnqh.out; omega), mul_row (by rw [hnph.out]; exact hlt) hXh.out]⟩)
     go_wp2
     go_roundw
     case rel => exact ⟨k + 1, m, by omega, by go_num, hm2, hat, hgl, hb⟩
     case measure => simp [intOf]; omega
  ·have i1 : ¬ (k : Int) < (np : Int) := by omega
   have hfin := hval.out m (by rw [hm.out.1]; exact hn200) fun x => by rw [hm.out.2 x, List.take_of_length_le (by have := hnph.out; omega)]
   have hsl := IsSl.of_at hat.out hm.out.1 (by omega) hgl.out
   have cc := size_own hsl (by rw [hm.out.1]; omega)
   have htl := trim_len m
   have hfr := trim_take m
   rw [hm.out.1, hfin] at cc
   rw [hfin, hm.out.1] at htl
   rw [hfin] at hfr
   have hsl := Lib.hid hsl
   obtain ⟨r, hr⟩ : ∃ r, (mulL p q).length = r := ⟨_, rfl⟩
   rw [hr] at cc htl hfr
   have hrn : (r : Int) ≤ (n : Int) := by omega
   have hrh := Lib.hid hr
   have hfr := Lib.hid hfr
   have cc := Lib.hid cc
   have hBB := chain hbb.out hb
   clear hr hat hgl hm htl hfin hb
   go_wp2_with fail
   refine cc.out.mono ?_
   rintro e w3 ⟨rfl, rfl⟩
   go_wp2
   go_ret
   exact ⟨_, n, by rw [hrh.out]; rfl, hsl.out.front r hfr.out, hBB⟩
end G6
end Go.Proofs.YtiodkllckcpinaaGreatDoor
