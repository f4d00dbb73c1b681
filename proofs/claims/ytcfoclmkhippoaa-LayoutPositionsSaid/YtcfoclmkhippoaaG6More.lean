/- Plain facts for layer 6 (gfpoly): the ring, division, the derivative, interpolation, products of linear factors. No program is named here. -/
import Derived.Test.YtcfoclmkhippoaaG6Math
namespace Go.Proofs.Ytcfoclmkhippoaa.G6
set_option maxRecDepth 100000
open Go.Proofs.Ytcfoclmkhippoaa.G5
set_option linter.unusedVariables false
set_option linter.unusedSimpArgs false

theorem getD_last (p : List R) (a : R) : (p ++ [a]).getD p.length 0 = a := by simp [List.getD_eq_getElem?_getD]
/-! ### the ring -/
def addL (p q : List R) : List R := trim (ad p q)
def mulL (p q : List R) : List R := trim (ml p q)
theorem addL_tr (p q : List R) : Tr (addL p q) := trim_trim _
theorem mulL_tr (p q : List R) : Tr (mulL p q) := trim_trim _
theorem addL_len (p q : List R) : (addL p q).length ≤ max p.length q.length := by have := trim_len (ad p q); rw [ad_len] at this; exact this
theorem mulL_len (p q : List R) : (mulL p q).length ≤ p.length + q.length := Nat.le_trans (trim_len _) (ml_len p q)
theorem ev_addL (p q : List R) (x : R) : ev (addL p q) x = ev p x ^^^ ev q x := by rw [addL, ev_trim, ev_ad]
theorem ev_mulL (p q : List R) (x : R) : ev (mulL p q) x = tms (ev p x) (ev q x) := by rw [mulL, ev_trim, ev_ml]
theorem addL_comm (p q : List R) (h1 : p.length ≤ 128) (h2 : q.length ≤ 128) : addL p q = addL q p :=
  eq_ev (addL_tr _ _) (addL_tr _ _) (by have := addL_len p q; omega) (by have := addL_len q p; omega) fun x => by rw [ev_addL, ev_addL, BitVec.xor_comm]
theorem addL_assoc (p q r : List R) (h1 : p.length ≤ 128) (h2 : q.length ≤ 128) (h3 : r.length ≤ 128) : addL (addL p q) r = addL p (addL q r) :=
  eq_ev (addL_tr _ _) (addL_tr _ _) (by have := addL_len p q; have := addL_len (addL p q) r; omega) (by have := addL_len q r; have := addL_len p (addL q r); omega) fun x => by
    rw [ev_addL, ev_addL, ev_addL, ev_addL, BitVec.xor_assoc]
theorem ad_self : ∀ p : List R, ∀ a ∈ ad p p, a = 0
  | [], a, h => by cases h
  | b :: p, a, h => by
    rw [ad_cons] at h
    rcases List.mem_cons.1 h with rfl | h
    · exact xs b
    · exact ad_self p a h
theorem addL_self (p : List R) : addL p p = [] := trim_zeros _ (ad_self p)
theorem mulL_comm (p q : List R) (h : p.length + q.length ≤ 256) : mulL p q = mulL q p :=
  eq_ev (mulL_tr _ _) (mulL_tr _ _) (by have := mulL_len p q; omega) (by have := mulL_len q p; omega) fun x => by rw [ev_mulL, ev_mulL, tms_comm]
theorem mulL_assoc (p q r : List R) (h : p.length + q.length + r.length ≤ 256) : mulL (mulL p q) r = mulL p (mulL q r) :=
  eq_ev (mulL_tr _ _) (mulL_tr _ _) (by have := mulL_len p q; have := mulL_len (mulL p q) r; omega) (by have := mulL_len q r; have := mulL_len p (mulL q r); omega) fun x => by
    rw [ev_mulL, ev_mulL, ev_mulL, ev_mulL, tms_assoc]
theorem mulL_one (p : List R) (h : p.length ≤ 128) : mulL p [1] = trim p :=
  eq_ev (mulL_tr _ _) (trim_trim _) (by have : (mulL p [1]).length ≤ p.length + 1 := mulL_len p [1]; omega) (by have := trim_len p; omega) fun x => by
    rw [ev_mulL, ev_one, tms_one, ev_trim]
theorem mulL_addL (p q r : List R) (h1 : p.length ≤ 64) (h2 : q.length ≤ 64) (h3 : r.length ≤ 64) : mulL p (addL q r) = addL (mulL p q) (mulL p r) :=
  eq_ev (mulL_tr _ _) (addL_tr _ _) (by have := addL_len q r; have := mulL_len p (addL q r); omega) (by have := mulL_len p q; have := mulL_len p r; have := addL_len (mulL p q) (mulL p r); omega) fun x => by
    rw [ev_mulL, ev_addL, ev_addL, ev_mulL, ev_mulL, tms_b]

/-! ### division -/
structure Dvd (p q d r : List R) : Prop where
  td : Tr d
  tr : Tr r
  lt : r.length < (trim q).length
  ld : d.length ≤ p.length
  eqn : ∀ x, ev p x = tms (ev d x) (ev q x) ^^^ ev r x
theorem Dvd.only {p q d r d' r' : List R} (h : Dvd p q d r) (h' : Dvd p q d' r') (hp : p.length ≤ 100) (hq : q.length ≤ 100) : d = d' ∧ r = r' := by
  have hq0 := trim_len q
  have hl := h.lt
  have hl' := h'.lt
  have hd := h.ld
  have hd' := h'.ld
  have key : d = d' := by
    by_cases hD : addL d d' = []
    · have := zeros_of_trim _ hD
      exact eq_of_zeros d d' h.td h'.td this
    · exfalso
      have hqn : trim q ≠ [] := fun e => by rw [e] at hl; simp at hl
      obtain ⟨t1, t2⟩ := Tr.ml (addL_tr d d') (trim_trim q) hD hqn
      have hDl := addL_len d d'
      have hRl := addL_len r r'
      have e := eq_ev t1 (addL_tr r r') (by omega) (by omega) fun x => by
        rw [ev_ml, ev_addL, ev_trim, ev_addL, tms_a]
        have e1 := h.eqn x
        have e2 := h'.eqn x
        rw [e1] at e2
        obtain ⟨A, hA⟩ : ∃ A, tms (ev d x) (ev q x) = A := ⟨_, rfl⟩
        obtain ⟨B, hB⟩ : ∃ B, tms (ev d' x) (ev q x) = B := ⟨_, rfl⟩
        obtain ⟨C, hC⟩ : ∃ C, ev r x = C := ⟨_, rfl⟩
        obtain ⟨E, hE⟩ : ∃ E, ev r' x = E := ⟨_, rfl⟩
        rw [hA, hB, hC, hE] at e2
        rw [hA, hB, hC, hE]
        have : A = B ^^^ E ^^^ C := by rw [← e2, BitVec.xor_assoc, xs, xz]
        rw [this]
        simp only [BitVec.xor_assoc, BitVec.xor_comm, xac, xcan, xs, xz, zx]
      have hlen := congrArg List.length e
      have hDp := List.length_pos_iff.2 hD
      omega
  refine ⟨key, ?_⟩
  subst key
  refine eq_ev h.tr h'.tr (by omega) (by omega) fun x => ?_
  have e1 := h.eqn x
  have e2 := h'.eqn x
  rw [e1] at e2
  have := congrArg (tms (ev d x) (ev q x) ^^^ ·) e2
  simpa only [xcan] using this
theorem Dvd.back {p q d r : List R} (h : Dvd p q d r) (hp : p.length ≤ 64) (hq : q.length ≤ 64) : addL (mulL d q) r = trim p := by
  have h1 := h.ld
  have h2 := h.lt
  have h3 := trim_len q
  have h4 := mulL_len d q
  have h5 := addL_len (mulL d q) r
  have h6 := trim_len p
  refine eq_ev (addL_tr _ _) (trim_trim _) (by omega) (by omega) fun x => ?_
  rw [ev_addL, ev_mulL, ev_trim, ← h.eqn x]
/-- The remainder of the division by x - c: the value at c. -/
theorem Tr_lin (c : R) : Tr [c, 1] := Tr.snoc one_ne [c]
theorem ev_lin (c x : R) : ev [c, 1] x = c ^^^ x := by rw [ev_cons, ev_one, tms_one]
theorem Dvd.rest {p d r : List R} {c : R} (h : Dvd p [c, 1] d r) : r = trim [ev p c] := by
  have hl := h.lt
  rw [(Tr_lin c).eq] at hl
  have e := h.eqn c
  rw [ev_lin, xs, tms_zero, zx] at e
  match r, hl, h.tr, e with
  | [], _, _, e =>
    rw [e, ev_nil]
    rfl
  | [a], _, ht, e =>
    rw [e, ev_one]
    exact ht.eq.symm
  | a :: b :: r, hl, _, _ =>
    simp at hl
    omega

/-! ### the derivative -/
def dr : List R → List R
  | [] => []
  | [b] => [b]
  | b :: _ :: p => b :: 0 :: dr p
def de : List R → List R
  | [] => []
  | _ :: p => dr p
def dv : List R → R → R
  | [], _ => 0
  | _ :: p, x => ev p x ^^^ tms x (dv p x)
theorem dv_cons (a : R) (p : List R) (x : R) : dv (a :: p) x = ev p x ^^^ tms x (dv p x) := rfl
theorem ev_dr : ∀ (p : List R) (x : R), ev (dr p) x = ev p x ^^^ tms x (dv p x)
  | [], x => by
    show (0 : R) = 0 ^^^ tms x 0
    rw [tms_zero, xs]
  | [b], x => by
    show ev [b] x = ev [b] x ^^^ tms x (0 ^^^ tms x 0)
    rw [tms_zero, xs, tms_zero, xz]
  | b :: c :: p, x => by
    show b ^^^ tms x (0 ^^^ tms x (ev (dr p) x)) = (b ^^^ tms x (c ^^^ tms x (ev p x))) ^^^ tms x ((c ^^^ tms x (ev p x)) ^^^ tms x (ev p x ^^^ tms x (dv p x)))
    rw [ev_dr p x, zx]
    simp only [tms_b]
    simp only [BitVec.xor_assoc, BitVec.xor_comm, xac, xcan, xs, xz, zx]
theorem ev_de : ∀ (p : List R) (x : R), ev (de p) x = dv p x
  | [], x => rfl
  | a :: p, x => ev_dr p x
theorem dr_len : ∀ p : List R, (dr p).length = p.length
  | [] => rfl
  | [b] => rfl
  | b :: c :: p => by
    show (b :: 0 :: dr p).length = _
    simp [dr_len p]
theorem de_len (p : List R) : (de p).length = p.length - 1 := by
  cases p with
  | nil => rfl
  | cons a p => exact dr_len p
theorem dr_get : ∀ (p : List R) (i : Nat), (dr p).getD i 0 = if i % 2 = 0 then p.getD i 0 else 0
  | [], i => by simp [dr]
  | [b], 0 => rfl
  | [b], i + 1 => by simp [dr]
  | b :: c :: p, 0 => rfl
  | b :: c :: p, 1 => rfl
  | b :: c :: p, i + 2 => by
    show (dr p).getD i 0 = _
    rw [dr_get p i, show (i + 2) % 2 = i % 2 by omega]
    rfl
theorem de_get (p : List R) (i : Nat) : (de p).getD i 0 = if (i + 1) % 2 = 1 then p.getD (i + 1) 0 else 0 := by
  cases p with
  | nil => simp [de]
  | cons a p =>
    show (dr p).getD i 0 = _
    rw [dr_get p i]
    by_cases h : i % 2 = 0
    · rw [if_pos h, if_pos (by omega)]
      rfl
    · rw [if_neg h, if_neg (by omega)]
theorem dv_ad : ∀ (p q : List R) (x : R), dv (ad p q) x = dv p x ^^^ dv q x
  | [], q, x => by rw [nil_ad]; show _ = 0 ^^^ _; rw [zx]
  | a :: p, [], x => by rw [ad_nil]; show _ = _ ^^^ 0; rw [xz]
  | a :: p, b :: q, x => by
    rw [ad_cons, dv_cons, dv_cons, dv_cons, dv_ad p q x, ev_ad, tms_b]
    simp only [BitVec.xor_assoc, BitVec.xor_comm, xac, xcan, xs, xz, zx]
theorem dv_sc (c : R) : ∀ (p : List R) (x : R), dv (sc c p) x = tms c (dv p x)
  | [], x => by show (0 : R) = tms c 0; rw [tms_zero]
  | a :: p, x => by
    show ev (sc c p) x ^^^ tms x (dv (sc c p) x) = tms c (ev p x ^^^ tms x (dv p x))
    rw [ev_sc, dv_sc c p x, tms_b, tac]
theorem dv_ml : ∀ (p q : List R) (x : R), dv (ml p q) x = tms (dv p x) (ev q x) ^^^ tms (ev p x) (dv q x)
  | [], q, x => by
    show (0 : R) = tms 0 (ev q x) ^^^ tms 0 (dv q x)
    rw [zero_tms, zero_tms, xs]
  | a :: p, q, x => by
    rw [show ml (a :: p) q = ad (sc a q) (0 :: ml p q) from rfl, dv_ad, dv_sc, dv_cons, dv_cons, ev_ml, dv_ml p q x, ev_cons]
    simp only [tms_a, tms_b, tms_assoc]
    simp only [BitVec.xor_assoc, BitVec.xor_comm, xac, xcan, xs, xz, zx]
theorem dv_zeros : ∀ (p : List R) (x : R), (∀ a ∈ p, a = 0) → dv p x = 0
  | [], _, _ => rfl
  | a :: p, x, h => by
    have hp : ∀ b ∈ p, b = 0 := fun b hb => h b (by simp [hb])
    have := ev_trim p x
    rw [trim_zeros p hp] at this
    rw [dv_cons, ← this, dv_zeros p x hp, ev_nil, tms_zero, xs]
theorem dv_trim : ∀ (p : List R) (x : R), dv (trim p) x = dv p x
  | [], x => rfl
  | a :: p, x => by
    unfold trim
    split
    · rename_i h
      have hp := zeros_of_trim p h
      have e := ev_trim p x
      rw [h] at e
      rw [dv_cons, ← e, dv_zeros p x hp, ev_nil, tms_zero, xs]
      split
      · rfl
      · show ev [] x ^^^ tms x (dv [] x) = 0
        show (0 : R) ^^^ tms x 0 = 0
        rw [tms_zero, xs]
    · rw [dv_cons, dv_cons, ev_trim, dv_trim p x]
def derL (p : List R) : List R := trim (de p)
theorem derL_tr (p : List R) : Tr (derL p) := trim_trim _
theorem derL_len (p : List R) : (derL p).length ≤ p.length := by have := trim_len (de p); rw [de_len] at this; unfold derL; omega
theorem ev_derL (p : List R) (x : R) : ev (derL p) x = dv p x := by rw [derL, ev_trim, ev_de]
theorem derL_addL (p q : List R) (h1 : p.length ≤ 128) (h2 : q.length ≤ 128) : derL (addL p q) = addL (derL p) (derL q) := by
  have a1 := derL_len p
  have a2 := derL_len q
  have a3 := addL_len p q
  have a4 := derL_len (addL p q)
  have a5 := addL_len (derL p) (derL q)
  refine eq_ev (derL_tr _) (addL_tr _ _) (by omega) (by omega) fun x => ?_
  rw [ev_derL, ev_addL, ev_derL, ev_derL, addL, dv_trim, dv_ad]
theorem derL_mulL (p q : List R) (h1 : p.length ≤ 64) (h2 : q.length ≤ 64) : derL (mulL p q) = addL (mulL (derL p) q) (mulL p (derL q)) := by
  have a1 := derL_len p
  have a2 := derL_len q
  have a3 := mulL_len p q
  have a4 := derL_len (mulL p q)
  have a5 := mulL_len (derL p) q
  have a6 := mulL_len p (derL q)
  have a7 := addL_len (mulL (derL p) q) (mulL p (derL q))
  refine eq_ev (derL_tr _) (addL_tr _ _) (by omega) (by omega) fun x => ?_
  rw [ev_derL, ev_addL, ev_mulL, ev_mulL, ev_derL, ev_derL, mulL, dv_trim, dv_ml]

/-! ### interpolation -/
structure Itp (xl yl l : List R) : Prop where
  tr : Tr l
  len : l.length ≤ xl.length
  val : ∀ i, (h : i < xl.length) → ev l xl[i] = yl.getD i 0
theorem Itp.only {xl yl l m : List R} (hn : xl.Nodup) (h : Itp xl yl l) (h' : Itp xl yl m) : l = m :=
  eq_at hn h.tr h'.tr h.len h'.len fun x hx => by
    obtain ⟨i, hi, rfl⟩ := List.getElem_of_mem hx
    rw [h.val i hi, h'.val i hi]
/-- A polynomial is recovered from its values. -/
theorem Itp.of_values {xl p : List R} (h : (trim p).length ≤ xl.length) : Itp xl (xl.map (ev p)) (trim p) :=
  ⟨trim_trim p, h, fun i hi => by simp [ev_trim, hi]⟩

/-! ### products of linear factors -/
def prodL (l : List R) : List R := l.foldl (fun p r => mulL p [r, 1]) [1]
theorem prodL_snoc (l : List R) (r : R) : prodL (l ++ [r]) = mulL (prodL l) [r, 1] := by simp [prodL]
theorem prod_from : ∀ (l p : List R), Tr p → p ≠ [] → Tr (l.foldl (fun p r => mulL p [r, 1]) p) ∧ (l.foldl (fun p r => mulL p [r, 1]) p).length = p.length + l.length ∧
    ∀ x, (ev (l.foldl (fun p r => mulL p [r, 1]) p) x = 0 ↔ ev p x = 0 ∨ x ∈ l)
  | [], p, h, _ => ⟨h, rfl, fun x => by simp⟩
  | r :: l, p, h, h0 => by
    obtain ⟨t1, t2⟩ := Tr.ml h (Tr_lin r) h0 (by simp)
    have e : mulL p [r, 1] = ml p [r, 1] := t1.eq
    have hl : (mulL p [r, 1]).length = p.length + 1 := by rw [e]; simp at t2; omega
    obtain ⟨i1, i2, i3⟩ := prod_from l (mulL p [r, 1]) (mulL_tr _ _) (fun e => by rw [e] at hl; simp at hl)
    refine ⟨i1, by rw [List.foldl_cons, i2, hl, List.length_cons]; omega, fun x => ?_⟩
    rw [List.foldl_cons, i3 x, ev_mulL, ev_lin, tms_zero_iff, xor_zero_iff, List.mem_cons]
    constructor
    · rintro ((h | h) | h)
      · exact .inl h
      · exact .inr (.inl h.symm)
      · exact .inr (.inr h)
    · rintro (h | h | h)
      · exact .inl (.inl h)
      · exact .inl (.inr h.symm)
      · exact .inr h
theorem prodL_tr (l : List R) : Tr (prodL l) := (prod_from l [1] (Tr.snoc one_ne []) (by simp)).1
theorem prodL_len (l : List R) : (prodL l).length = l.length + 1 := by
  have := (prod_from l [1] (Tr.snoc one_ne []) (by simp)).2.1
  unfold prodL
  rw [this]
  simp
  omega
theorem prodL_zero (l : List R) (x : R) : ev (prodL l) x = 0 ↔ x ∈ l := by
  have := (prod_from l [1] (Tr.snoc one_ne []) (by simp)).2.2 x
  unfold prodL
  rw [this, ev_one]
  constructor
  · rintro (h | h)
    · exact absurd h one_ne
    · exact h
  · exact fun h => .inr h
end Go.Proofs.Ytcfoclmkhippoaa.G6
