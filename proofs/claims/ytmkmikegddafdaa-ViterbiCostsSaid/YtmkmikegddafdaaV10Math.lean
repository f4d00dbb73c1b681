/- Plain facts for layer 10 (viterbi): the distance of received cells from a path, the table of costs to go with the number of paths, the least path; what a code word's distances say. No program is named here. -/
import Derived.Test.YtmkmikegddafdaaC9Math
namespace Go.Proofs.Ytmkmikegddafdaa.V10
open C9
set_option linter.unusedVariables false
set_option linter.unusedSimpArgs false

/-! ### mismatches -/
/-- Does the received cell differ from the cell of a bit? -/
def mis (x : UInt8) (b : Bool) : Nat := if x != 63 && x != cell b then 1 else 0
theorem mis_le (x : UInt8) (b : Bool) : mis x b ≤ 1 := by
  unfold mis
  split <;> omega
theorem mis_q (b : Bool) : mis 63 b = 0 := rfl
theorem mis_cell (a b : Bool) : mis (cell a) b = bn (a ^^ b) := by cases a <;> cases b <;> rfl
def misL : List UInt8 → List Bool → Nat
  | x :: X, b :: B => mis x b + misL X B
  | _, _ => 0
theorem misL_app : ∀ (X Y : List UInt8) (A B : List Bool), X.length = A.length → misL (X ++ Y) (A ++ B) = misL X A + misL Y B
  | [], Y, [], B, _ => by show misL Y B = 0 + _; omega
  | x :: X, Y, a :: A, B, h => by
    show mis x a + misL (X ++ Y) (A ++ B) = mis x a + misL X A + _
    rw [misL_app X Y A B (by simpa using h)]
    omega
  | [], Y, a :: A, B, h => by simp at h
  | x :: X, Y, [], B, h => by simp at h
/-- The unreadable cells. -/
def unrL (X : List UInt8) : Nat := (X.filter (· == 63)).length
theorem unrL_cons (x : UInt8) (X : List UInt8) : unrL (x :: X) = (if x == 63 then 1 else 0) + unrL X := by
  unfold unrL
  rw [List.filter_cons]
  split
  · rw [List.length_cons]; omega
  · omega
/-- Two words differ at no more places than both differ from the received cells, but for the unreadable ones. -/
theorem triangle : ∀ (X : List UInt8) (A B : List Bool), X.length = A.length → X.length = B.length → wgt (xo A B) ≤ misL X A + misL X B + unrL X
  | [], [], [], _, _ => by decide
  | x :: X, a :: A, b :: B, h1, h2 => by
    have ih := triangle X A B (by simpa using h1) (by simpa using h2)
    have e : wgt (xo (a :: A) (b :: B)) = bn (a ^^ b) + wgt (xo A B) := by
      show wgt ([a ^^ b] ++ xo A B) = _
      rw [wgt_app]
      congr 1
      cases (a ^^ b) <;> rfl
    rw [e, unrL_cons]
    show _ ≤ (mis x a + misL X A) + (mis x b + misL X B) + _
    have h : bn (a ^^ b) ≤ mis x a + mis x b + (if x == 63 then 1 else 0) := by
      by_cases hx : x = 63
      · subst hx
        cases a <;> cases b <;> decide
      · have hx' : (x == 63) = false := beq_eq_false_iff_ne.2 hx
        have hx2 : (x != 63) = true := bne_iff_ne.2 hx
        unfold mis
        rw [hx', hx2]
        by_cases h48 : x = 48
        · subst h48
          cases a <;> cases b <;> decide
        · have e48 : (x != 48) = true := bne_iff_ne.2 h48
          by_cases h49 : x = 49
          · subst h49
            cases a <;> cases b <;> decide
          · have e49 : (x != 49) = true := bne_iff_ne.2 h49
            cases a <;> cases b <;> simp [cell, bn, e48, e49]
    omega
  | [], a :: A, _, h, _ => by simp at h
  | [], [], b :: B, _, h => by simp at h
  | x :: X, [], _, h, _ => by simp at h
  | x :: X, a :: A, [], _, h => by simp at h
theorem misL_self : ∀ A : List Bool, misL (cs A) A = 0
  | [] => rfl
  | a :: A => by
    show mis (cell a) a + misL (cs A) A = 0
    rw [misL_self A, mis_cell]
    cases a <;> rfl
theorem unrL_cs : ∀ A : List Bool, unrL (cs A) = 0
  | [] => rfl
  | a :: A => by
    show unrL (cell a :: cs A) = 0
    rw [unrL_cons, unrL_cs A]
    cases a <;> rfl
/-- Cells without a difference and without an unreadable one are the word itself. -/
theorem misL_zero : ∀ (X : List UInt8) (A : List Bool), X.length = A.length → X.all okC = true → unrL X = 0 → misL X A = 0 → X = cs A
  | [], [], _, _, _, _ => rfl
  | x :: X, a :: A, hl, ho, hu, hm => by
    rw [unrL_cons] at hu
    have hm' : mis x a + misL X A = 0 := hm
    rw [List.all_cons, Bool.and_eq_true] at ho
    have ih := misL_zero X A (by simpa using hl) ho.2 (by omega) (by omega)
    have hx : mis x a = 0 := by omega
    have hq : (x == 63) = false := by
      cases h : x == 63
      · rfl
      · rw [h] at hu
        simp at hu
    have hx2 : x = cell a := by
      unfold mis at hx
      have hq' : (x != 63) = true := by simp [bne, hq]
      rw [hq', Bool.true_and] at hx
      by_cases e : x = cell a
      · exact e
      · rw [bne_iff_ne.2 e] at hx
        simp at hx
    show x :: X = cell a :: cs A
    rw [hx2, ← ih]
  | [], a :: A, h, _, _, _ => by simp at h
  | x :: X, [], h, _, _, _ => by simp at h

/-! ### received transitions -/
def pairs : List UInt8 → List (UInt8 × UInt8)
  | a :: b :: l => (a, b) :: pairs l
  | _ => []
theorem pairs_len : ∀ (n : Nat) (l : List UInt8), l.length = 2 * n → (pairs l).length = n
  | 0, [], _ => rfl
  | n + 1, a :: b :: l, h => by
    show (pairs l).length + 1 = _
    rw [pairs_len n l (by simp at h; omega)]
  | 0, a :: l, h => by simp at h
  | n + 1, [], h => by simp at h
  | n + 1, [a], h => by simp at h; omega
theorem pairs_drop : ∀ (k : Nat) (l : List UInt8), (pairs l).drop k = pairs (l.drop (2 * k))
  | 0, l => rfl
  | k + 1, [] => by simp [pairs]
  | k + 1, [a] => by
    have : ([a] : List UInt8).drop (2 * (k + 1)) = [] := List.drop_eq_nil_of_le (by simp; omega)
    rw [this]
    rfl
  | k + 1, a :: b :: l => by
    rw [show 2 * (k + 1) = 2 * k + 1 + 1 by omega]
    show (pairs l).drop k = pairs (l.drop (2 * k))
    exact pairs_drop k l
theorem pairs_get : ∀ (k : Nat) (l : List UInt8) (h : k < (pairs l).length) (h1 : 2 * k < l.length) (h2 : 2 * k + 1 < l.length), (pairs l)[k] = (l[2 * k], l[2 * k + 1])
  | 0, a :: b :: l, _, _, _ => rfl
  | k + 1, a :: b :: l, h, h1, h2 => by
    have := pairs_get k l (by simpa [pairs] using h) (by simp at h1; omega) (by simp at h2; omega)
    show (pairs l)[k]'_ = _
    rw [this]
    rfl
  | 0, [], h, _, _ => by simp [pairs] at h
  | 0, [a], h, _, _ => by simp [pairs] at h
  | k + 1, [], h, _, _ => by simp [pairs] at h
  | k + 1, [a], h, _, _ => by simp [pairs] at h
def mm (r : UInt8 × UInt8) (s1 s2 u : Bool) : Nat := mis r.1 (u ^^ s1 ^^ s2) + mis r.2 (u ^^ s2)
theorem mm_le (r : UInt8 × UInt8) (s1 s2 u : Bool) : mm r s1 s2 u ≤ 2 := by
  have h1 := mis_le r.1 (u ^^ s1 ^^ s2)
  have h2 := mis_le r.2 (u ^^ s2)
  unfold mm
  omega
/-- The cost of a path. -/
def pc : List (UInt8 × UInt8) → Bool → Bool → List Bool → Nat
  | r :: R, s1, s2, u :: l => mm r s1 s2 u + pc R u s1 l
  | _, _, _, _ => 0
theorem pc_mis : ∀ (l : List Bool) (X : List UInt8) (s1 s2 : Bool), X.length = 2 * l.length → pc (pairs X) s1 s2 l = misL X (run s1 s2 l)
  | [], X, s1, s2, h => by
    have : X = [] := List.eq_nil_of_length_eq_zero (by simpa using h)
    subst this
    rfl
  | u :: l, [], _, _, h => by simp at h
  | u :: l, [x], _, _, h => by simp at h; omega
  | u :: l, x :: y :: X, s1, s2, h => by
    have ih := pc_mis l X u s1 (by simp at h; omega)
    show mm (x, y) s1 s2 u + pc (pairs X) u s1 l = mis x (u ^^ s1 ^^ s2) + (mis y (u ^^ s2) + misL X (run u s1 l))
    rw [ih]
    show mis x (u ^^ s1 ^^ s2) + mis y (u ^^ s2) + _ = _
    omega
structure Path (R : List (UInt8 × UInt8)) (s1 s2 : Bool) (l : List Bool) : Prop where
  len : l.length = R.length
  zero : fin s1 s2 l = (false, false)

/-! ### the table -/
abbrev Entry := Int × Nat
def add1 (e : Entry) (m : Nat) (a : Entry) : Entry :=
  if a.1 < 0 then e else
  if e.1 < 0 ∨ (m : Int) + a.1 < e.1 then ((m : Int) + a.1, a.2) else
  if (m : Int) + a.1 = e.1 then (e.1, 2) else e
def tb : List (UInt8 × UInt8) → Bool → Bool → Entry
  | [], s1, s2 => if s1 || s2 then (-1, 0) else (0, 1)
  | r :: R, s1, s2 => add1 (add1 (-1, 0) (mm r s1 s2 false) (tb R false s1)) (mm r s1 s2 true) (tb R true s1)
structure Ent (P : List Bool → Prop) (c : List Bool → Nat) (e : Entry) : Prop where
  neg : e.1 < 0 → e = (-1, 0) ∧ ∀ l, ¬ P l
  pos : 0 ≤ e.1 → (∃ l, P l ∧ (c l : Int) = e.1) ∧ (∀ l, P l → e.1 ≤ (c l : Int)) ∧ (e.2 = 1 ∨ e.2 = 2) ∧ (e.2 = 1 ↔ ∀ l l', P l → P l' → (c l : Int) = e.1 → (c l' : Int) = e.1 → l = l')
/-- The paths that begin with a bit. -/
def Fst (u : Bool) (P : List Bool → Prop) (l : List Bool) : Prop := ∃ l', l = u :: l' ∧ P l'
theorem Ent.none (c : List Bool → Nat) : Ent (fun _ => False) c (-1, 0) := ⟨fun _ => ⟨rfl, fun _ h => h⟩, fun h => by simp at h⟩
theorem Ent.add {P Q : List Bool → Prop} {c c' : List Bool → Nat} {e a : Entry} {m : Nat} (h : Ent P c e) (k : Ent Q c' a) (u : Bool) (hd : ∀ l, P l → ¬ Fst u Q l) (hc : ∀ l, c (u :: l) = m + c' l) :
    Ent (fun l => P l ∨ Fst u Q l) c (add1 e m a) := by
  unfold add1
  by_cases ha : a.1 < 0
  · rw [if_pos ha]
    have hq := (k.neg ha).2
    have hf : ∀ l, ¬ Fst u Q l := fun l ⟨l', _, hl⟩ => hq l' hl
    refine ⟨fun he => ⟨(h.neg he).1, fun l hl => hl.elim ((h.neg he).2 l) (hf l)⟩, fun he => ?_⟩
    obtain ⟨⟨l0, h0, h1⟩, h2, h3, h4⟩ := h.pos he
    refine ⟨⟨l0, .inl h0, h1⟩, fun l hl => hl.elim (h2 l) (fun x => absurd x (hf l)), h3, ?_⟩
    constructor
    · intro h5 l l' hl hl'
      exact h4.1 h5 l l' (hl.resolve_right (hf l)) (hl'.resolve_right (hf l'))
    · intro h5
      exact h4.2 fun l l' hl hl' => h5 l l' (.inl hl) (.inl hl')
  · rw [if_neg ha]
    obtain ⟨⟨l1, k0, k1⟩, k2, k3, k4⟩ := k.pos (by omega)
    have hl1 : (c (u :: l1) : Int) = (m : Int) + a.1 := by rw [hc]; omega
    by_cases he : e.1 < 0
    · rw [if_pos (.inl he)]
      have hn := (h.neg he).2
      refine ⟨fun h => by simp only at h; omega, fun _ => ⟨⟨u :: l1, .inr ⟨l1, rfl, k0⟩, hl1⟩, ?_, k3, ?_⟩⟩
      · rintro l (hl | ⟨l', rfl, hl⟩)
        · exact absurd hl (hn l)
        · have := k2 l' hl
          rw [hc]
          simp only
          omega
      · simp only
        constructor
        · rintro h5 l l' (hl | ⟨q, rfl, hl⟩) (hl' | ⟨q', rfl, hl'⟩) e1 e2
          · exact absurd hl (hn l)
          · exact absurd hl (hn l)
          · exact absurd hl' (hn l')
          · rw [hc] at e1 e2
            rw [k4.1 h5 q q' hl hl' (by omega) (by omega)]
        · intro h5
          refine k4.2 fun q q' hq hq' e1 e2 => ?_
          have := h5 (u :: q) (u :: q') (.inr ⟨q, rfl, hq⟩) (.inr ⟨q', rfl, hq'⟩) (by rw [hc]; omega) (by rw [hc]; omega)
          injection this
    · obtain ⟨⟨l0, h0, h1⟩, h2, h3, h4⟩ := h.pos (by omega)
      by_cases hlt : (m : Int) + a.1 < e.1
      · rw [if_pos (.inr hlt)]
        refine ⟨fun h => by simp only at h; omega, fun _ => ⟨⟨u :: l1, .inr ⟨l1, rfl, k0⟩, hl1⟩, ?_, k3, ?_⟩⟩
        · rintro l (hl | ⟨l', rfl, hl⟩)
          · have := h2 l hl
            simp only
            omega
          · have := k2 l' hl
            rw [hc]
            simp only
            omega
        · simp only
          constructor
          · rintro h5 l l' (hl | ⟨q, rfl, hl⟩) (hl' | ⟨q', rfl, hl'⟩) e1 e2
            · have := h2 l hl; omega
            · have := h2 l hl; omega
            · have := h2 l' hl'; omega
            · rw [hc] at e1 e2
              rw [k4.1 h5 q q' hl hl' (by omega) (by omega)]
          · intro h5
            refine k4.2 fun q q' hq hq' e1 e2 => ?_
            have := h5 (u :: q) (u :: q') (.inr ⟨q, rfl, hq⟩) (.inr ⟨q', rfl, hq'⟩) (by rw [hc]; omega) (by rw [hc]; omega)
            injection this
      · rw [if_neg (by omega)]
        by_cases heq : (m : Int) + a.1 = e.1
        · rw [if_pos heq]
          refine ⟨fun h => by simp only at h; omega, fun _ => ⟨⟨l0, .inl h0, h1⟩, ?_, .inr rfl, ?_⟩⟩
          · rintro l (hl | ⟨l', rfl, hl⟩)
            · exact h2 l hl
            · have := k2 l' hl
              rw [hc]
              simp only
              omega
          · constructor
            · intro h5
              simp at h5
            · intro h5
              have := h5 l0 (u :: l1) (.inl h0) (.inr ⟨l1, rfl, k0⟩) h1 (by rw [hl1]; exact heq)
              rw [this] at h0
              exact absurd ⟨l1, rfl, k0⟩ (hd _ h0)
        · rw [if_neg heq]
          refine ⟨fun h => by omega, fun _ => ⟨⟨l0, .inl h0, h1⟩, ?_, h3, ?_⟩⟩
          · rintro l (hl | ⟨l', rfl, hl⟩)
            · exact h2 l hl
            · have := k2 l' hl
              rw [hc]
              omega
          · constructor
            · rintro h5 l l' (hl | ⟨q, rfl, hl⟩) (hl' | ⟨q', rfl, hl'⟩) e1 e2
              · exact h4.1 h5 l l' hl hl' e1 e2
              · have := k2 q' hl'
                rw [hc] at e2
                omega
              · have := k2 q hl
                rw [hc] at e1
                omega
              · have := k2 q hl
                rw [hc] at e1
                omega
            · intro h5
              exact h4.2 fun l l' hl hl' => h5 l l' (.inl hl) (.inl hl')
theorem Ent.cong {P Q : List Bool → Prop} {c : List Bool → Nat} {e : Entry} (h : Ent P c e) (k : ∀ l, P l ↔ Q l) : Ent Q c e := by
  have : P = Q := funext fun l => propext (k l)
  rw [← this]
  exact h
theorem tb_ok : ∀ (R : List (UInt8 × UInt8)) (s1 s2 : Bool), Ent (Path R s1 s2) (pc R s1 s2) (tb R s1 s2)
  | [], s1, s2 => by
    by_cases h : (s1 || s2) = true
    · have e : tb [] s1 s2 = (-1, 0) := if_pos h
      rw [e]
      refine ⟨fun _ => ⟨rfl, fun l hl => ?_⟩, fun h => by simp at h⟩
      have : l = [] := List.eq_nil_of_length_eq_zero hl.len
      subst this
      have := hl.zero
      revert h this
      cases s1 <;> cases s2 <;> decide
    · have e : tb [] s1 s2 = (0, 1) := if_neg h
      have hs : s1 = false ∧ s2 = false := by
        revert h
        cases s1 <;> cases s2 <;> decide
      obtain ⟨rfl, rfl⟩ := hs
      rw [e]
      refine ⟨fun h => by simp at h, fun _ => ⟨⟨[], ⟨rfl, rfl⟩, rfl⟩, fun l _ => ?_, .inl rfl, ?_⟩⟩
      · show (0 : Int) ≤ (pc [] false false l : Int)
        omega
      · refine ⟨fun _ l l' hl hl' _ _ => ?_, fun _ => rfl⟩
        rw [List.eq_nil_of_length_eq_zero hl.len, List.eq_nil_of_length_eq_zero hl'.len]
  | r :: R, s1, s2 => by
    have h0 := (Ent.none (pc (r :: R) s1 s2)).add (tb_ok R false s1) (m := mm r s1 s2 false) false (fun l h => h.elim) (fun l => rfl)
    have h1 := h0.add (tb_ok R true s1) (m := mm r s1 s2 true) true (by
      rintro l (h | ⟨q, rfl, _⟩) ⟨q', h', _⟩
      · exact h
      · cases h') (fun l => rfl)
    refine h1.cong fun l => ?_
    constructor
    · rintro ((h | ⟨q, rfl, hq⟩) | ⟨q, rfl, hq⟩)
      · exact h.elim
      · exact ⟨by rw [List.length_cons, hq.len]; rfl, hq.zero⟩
      · exact ⟨by rw [List.length_cons, hq.len]; rfl, hq.zero⟩
    · intro h
      match l, h with
      | [], h => exact absurd h.len (by simp)
      | false :: q, h => exact .inl (.inr ⟨q, rfl, ⟨by have := h.len; simpa using this, h.zero⟩⟩)
      | true :: q, h => exact .inr ⟨q, rfl, ⟨by have := h.len; simpa using this, h.zero⟩⟩
theorem tb_int (R : List (UInt8 × UInt8)) (s1 s2 : Bool) : (tb R s1 s2).1 = -1 ∨ 0 ≤ (tb R s1 s2).1 := by
  by_cases h : (tb R s1 s2).1 < 0
  · exact .inl (by rw [((tb_ok R s1 s2).neg h).1])
  · exact .inr (by omega)
theorem tb_le : ∀ (R : List (UInt8 × UInt8)) (s1 s2 : Bool), (tb R s1 s2).1 ≤ 2 * (R.length : Int) ∧ (tb R s1 s2).2 ≤ 2 := by
  intro R s1 s2
  by_cases h : (tb R s1 s2).1 < 0
  · rw [((tb_ok R s1 s2).neg h).1]
    constructor
    · show (-1 : Int) ≤ _
      omega
    · show 0 ≤ 2
      omega
  · obtain ⟨⟨l, hl, hc⟩, _, h3, _⟩ := (tb_ok R s1 s2).pos (by omega)
    refine ⟨?_, by omega⟩
    rw [← hc]
    have : ∀ (R : List (UInt8 × UInt8)) (s1 s2 : Bool) (l : List Bool), pc R s1 s2 l ≤ 2 * R.length := by
      intro R
      induction R with
      | nil => intro s1 s2 l; exact Nat.le_refl _
      | cons r R ih =>
        intro s1 s2 l
        cases l with
        | nil => exact Nat.zero_le _
        | cons u l =>
          have h1 := ih u s1 l
          have h2 := mm_le r s1 s2 u
          show mm r s1 s2 u + pc R u s1 l ≤ _
          rw [List.length_cons]
          omega
    have := this R s1 s2 l
    omega

/-! ### the least path -/
/-- Is the first list not behind the second one? -/
def lxle : List Bool → List Bool → Bool
  | a :: l, b :: m => if a == b then lxle l m else b
  | _, _ => true
def dec : List (UInt8 × UInt8) → Bool → Bool → List Bool
  | [], _, _ => []
  | r :: R, s1, s2 => if (tb R false s1).1 < 0 ∨ (mm r s1 s2 false : Int) + (tb R false s1).1 ≠ (tb (r :: R) s1 s2).1 then true :: dec R true s1 else false :: dec R false s1
theorem dec_len : ∀ (R : List (UInt8 × UInt8)) (s1 s2 : Bool), (dec R s1 s2).length = R.length
  | [], _, _ => rfl
  | r :: R, s1, s2 => by
    unfold dec
    split
    · rw [List.length_cons, dec_len R]; rfl
    · rw [List.length_cons, dec_len R]; rfl
theorem dec_ok : ∀ (R : List (UInt8 × UInt8)) (s1 s2 : Bool), 0 ≤ (tb R s1 s2).1 → Path R s1 s2 (dec R s1 s2) ∧ (pc R s1 s2 (dec R s1 s2) : Int) = (tb R s1 s2).1 ∧ ∀ l, Path R s1 s2 l → (pc R s1 s2 l : Int) = (tb R s1 s2).1 → lxle (dec R s1 s2) l = true
  | [], s1, s2, h => by
    have hs : s1 = false ∧ s2 = false := by
      revert h
      cases s1 <;> cases s2 <;> decide
    obtain ⟨rfl, rfl⟩ := hs
    exact ⟨⟨rfl, rfl⟩, rfl, fun l _ _ => rfl⟩
  | r :: R, s1, s2, h => by
    obtain ⟨⟨l0, hl0, hc0⟩, hmin, _, _⟩ := (tb_ok (r :: R) s1 s2).pos h
    by_cases hz : (tb R false s1).1 < 0 ∨ (mm r s1 s2 false : Int) + (tb R false s1).1 ≠ (tb (r :: R) s1 s2).1
    · have e : dec (r :: R) s1 s2 = true :: dec R true s1 := if_pos hz
      rw [e]
      -- no least path begins with 0
      have hno : ∀ q, Path (r :: R) s1 s2 (false :: q) → (pc (r :: R) s1 s2 (false :: q) : Int) ≠ (tb (r :: R) s1 s2).1 := by
        intro q hq hcq
        have hq' : Path R false s1 q := ⟨by have := hq.len; simpa using this, hq.zero⟩
        have hcc : (mm r s1 s2 false : Int) + (pc R false s1 q : Int) = (tb (r :: R) s1 s2).1 := by
          rw [← hcq]
          show _ = ((mm r s1 s2 false + pc R false s1 q : Nat) : Int)
          omega
        by_cases hneg : (tb R false s1).1 < 0
        · exact ((tb_ok R false s1).neg hneg).2 q hq'
        · obtain ⟨⟨l1, hl1, hc1⟩, hmin1, _, _⟩ := (tb_ok R false s1).pos (by omega)
          have h1 := hmin1 q hq'
          have h2 := hmin (false :: l1) ⟨by rw [List.length_cons, hl1.len]; rfl, hl1.zero⟩
          have h3 : (pc (r :: R) s1 s2 (false :: l1) : Int) = (mm r s1 s2 false : Int) + (pc R false s1 l1 : Int) := by
            show ((mm r s1 s2 false + pc R false s1 l1 : Nat) : Int) = _
            omega
          rcases hz with hz | hz
          · exact hneg hz
          · omega
      match l0, hl0, hc0 with
      | [], hl0, _ => exact absurd hl0.len (by simp)
      | false :: q, hl0, hc0 => exact absurd hc0 (hno q hl0)
      | true :: q, hl0, hc0 =>
        have hq : Path R true s1 q := ⟨by have := hl0.len; simpa using this, hl0.zero⟩
        have hpos : 0 ≤ (tb R true s1).1 := by
          by_cases hn : (tb R true s1).1 < 0
          · exact absurd hq (((tb_ok R true s1).neg hn).2 q)
          · omega
        obtain ⟨hp, hpc, hlx⟩ := dec_ok R true s1 hpos
        obtain ⟨_, hmin1, _, _⟩ := (tb_ok R true s1).pos hpos
        have h1 := hmin1 q hq
        have hP : Path (r :: R) s1 s2 (true :: dec R true s1) := ⟨by rw [List.length_cons, hp.len]; rfl, hp.zero⟩
        have h2 := hmin _ hP
        have h3 : ∀ q, (pc (r :: R) s1 s2 (true :: q) : Int) = (mm r s1 s2 true : Int) + (pc R true s1 q : Int) := fun q => by
          show ((mm r s1 s2 true + pc R true s1 q : Nat) : Int) = _
          omega
        have h4 : (pc (r :: R) s1 s2 (true :: dec R true s1) : Int) = (tb (r :: R) s1 s2).1 := by
          rw [h3] at h2 hc0 ⊢
          omega
        refine ⟨hP, h4, fun l hl hcl => ?_⟩
        match l, hl, hcl with
        | [], hl, _ => exact absurd hl.len (by simp)
        | false :: q', hl, hcl => exact absurd hcl (hno q' hl)
        | true :: q', hl, hcl =>
          show lxle (dec R true s1) q' = true
          refine hlx q' ⟨by have := hl.len; simpa using this, hl.zero⟩ ?_
          rw [h3] at hcl h4
          omega
    · have e : dec (r :: R) s1 s2 = false :: dec R false s1 := if_neg hz
      rw [e]
      have hz1 : 0 ≤ (tb R false s1).1 := by
        by_cases h : (tb R false s1).1 < 0
        · exact absurd (.inl h) hz
        · omega
      have hz2 : (mm r s1 s2 false : Int) + (tb R false s1).1 = (tb (r :: R) s1 s2).1 := by
        by_cases h : (mm r s1 s2 false : Int) + (tb R false s1).1 = (tb (r :: R) s1 s2).1
        · exact h
        · exact absurd (.inr h) hz
      obtain ⟨hp, hpc, hlx⟩ := dec_ok R false s1 hz1
      have h3 : ∀ q, (pc (r :: R) s1 s2 (false :: q) : Int) = (mm r s1 s2 false : Int) + (pc R false s1 q : Int) := fun q => by
        show ((mm r s1 s2 false + pc R false s1 q : Nat) : Int) = _
        omega
      refine ⟨⟨by rw [List.length_cons, hp.len]; rfl, hp.zero⟩, by rw [h3, hpc]; exact hz2, fun l hl hcl => ?_⟩
      match l, hl, hcl with
      | [], hl, _ => exact absurd hl.len (by simp)
      | true :: q', hl, hcl => rfl
      | false :: q', hl, hcl =>
        show lxle (dec R false s1) q' = true
        refine hlx q' ⟨by have := hl.len; simpa using this, hl.zero⟩ ?_
        rw [h3] at hcl
        omega
/-! ### paths and bits -/
/-- A path that ends in state 0 ends with two zeros. -/
theorem path_end {l : List Bool} {s1 s2 : Bool} {n : Nat} (h : fin s1 s2 l = (false, false)) (hn : l.length = n + 2) : l = l.take n ++ [false, false] := by
  obtain ⟨p, q, rfl, hp⟩ : ∃ p q, l = p ++ q ∧ p.length = n := ⟨l.take n, l.drop n, (List.take_append_drop _ _).symm, by rw [List.length_take]; omega⟩
  rw [List.length_append] at hn
  match q, hn with
  | [a, b], _ =>
    rw [fin_app] at h
    have e : fin (fin s1 s2 p).1 (fin s1 s2 p).2 [a, b] = (b, a) := rfl
    rw [e] at h
    injection h with h1 h2
    subst h1 h2
    rw [List.take_left' hp]
  | [], hn => simp at hn; omega
  | [a], hn => simp at hn; omega
  | a :: b :: c :: q, hn => simp at hn; omega
theorem path_of (l : List Bool) (R : List (UInt8 × UInt8)) (h : R.length = l.length + 2) : Path R false false (l ++ [false, false]) := ⟨by rw [List.length_append, h]; rfl, by rw [fin_app]; rfl⟩
theorem lxle_left : ∀ (l m p : List Bool), l.length = m.length → lxle (l ++ p) (m ++ p) = lxle l m
  | [], [], p, _ => by
    show lxle p p = true
    induction p with
    | nil => rfl
    | cons a p ih => show (if a == a then lxle p p else a) = true; rw [beq_self_eq_true, if_pos rfl, ih]
  | a :: l, b :: m, p, h => by
    show (if a == b then lxle (l ++ p) (m ++ p) else b) = if a == b then lxle l m else b
    rw [lxle_left l m p (by simpa using h)]
  | [], b :: m, p, h => by simp at h
  | a :: l, [], p, h => by simp at h
theorem lxle_anti : ∀ (l m : List Bool), l.length = m.length → lxle l m = true → lxle m l = true → l = m
  | [], [], _, _, _ => rfl
  | a :: l, b :: m, h, h1, h2 => by
    cases a <;> cases b
    · rw [lxle_anti l m (by simpa using h) h1 h2]
    · cases h2
    · cases h1
    · rw [lxle_anti l m (by simpa using h) h1 h2]
  | [], b :: m, h, _, _ => by simp at h
  | a :: l, [], h, _, _ => by simp at h
end Go.Proofs.Ytmkmikegddafdaa.V10
