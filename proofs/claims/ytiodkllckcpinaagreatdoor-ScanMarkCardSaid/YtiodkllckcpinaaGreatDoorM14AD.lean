/- Facts and contracts that the walks of this layer use, merged: V10Math, V10Con, V10Cho, V10Own1. -/
import Derived.Test.YtiodkllckcpinaaGreatDoorM14AB
import Derived.Test.YtiodkllckcpinaaGreatDoorM14AC
import Derived.Below
import Derived.Laws.Rows
set_option linter.unusedVariables false
set_option linter.unusedSimpArgs false
set_option maxRecDepth 100000
namespace Go.Proofs.YtiodkllckcpinaaGreatDoor
namespace V10
open C9

/-! ### mismatches -/
/-- Does the received cell differ from the cell of a bit? -/
def mis (x : UInt8) (b : Bool) : Nat := if x != 63 && x != cell b then 1 else 0
theorem mis_le (x : UInt8) (b : Bool) : mis x b ≤ 1 := by
 unfold mis
 split <;> omega
theorem mis_cell (a b : Bool) : mis (cell a) b = bn (a ^^ b) := by cases a <;> cases b <;> rfl
def misL : List UInt8 → List Bool → Nat
 | x :: X, b :: B => mis x b + misL X B
 | _, _ => 0
def unrL (X : List UInt8) : Nat := (X.filter (· == 63)).length
theorem unrL_cons (x : UInt8) (X : List UInt8) : unrL (x :: X) = (if x == 63 then 1 else 0) + unrL X := by
 unfold unrL
 rw [List.filter_cons]
 split
 ·rw [List.length_cons]; omega
 ·omega
theorem triangle : ∀ (X : List UInt8) (A B : List Bool), X.length = A.length → X.length = B.length → wgt (xo A B) ≤ misL X A + misL X B + unrL X
 | [], [], [], _, _ => by decide
 | x :: X, a :: A, b :: B, h1, h2 => by
  have ih := triangle X A B (by simpa using h1) (by simpa using h2)
  have e : wgt (xo (a :: A) (b :: B)) = bn (a ^^ b) + wgt (xo A B) := by
   show wgt ([a ^^ b] ++ xo A B) = _
   rw [wgt_app]
   congr 1
   cases (a ^^ b) <;> rfl
  rw [e, unrL_cons]
  show _ ≤ (mis x a + misL X A) + (mis x b + misL X B) + _
  have h : bn (a ^^ b) ≤ mis x a + mis x b + (if x == 63 then 1 else 0) := by
   by_cases hx : x = 63
   ·subst hx
    cases a <;> cases b <;> decide
   ·have hx' : (x == 63) = false := beq_eq_false_iff_ne.2 hx
    have hx2 : (x != 63) = true := bne_iff_ne.2 hx
    unfold mis
    rw [hx', hx2]
    by_cases h48 : x = 48
    ·subst h48
     cases a <;> cases b <;> decide
    ·have e48 : (x != 48) = true := bne_iff_ne.2 h48
     by_cases h49 : x = 49
     ·subst h49
      cases a <;> cases b <;> decide
     ·have e49 : (x != 49) = true := bne_iff_ne.2 h49
      cases a <;> cases b <;> simp [cell, bn, e48, e49]
  omega
 | [], a :: A, _, h, _ => by simp at h
 | [], [], b :: B, _, h => by simp at h
 | x :: X, [], _, h, _ => by simp at h
 | x :: X, a :: A, [], _, h => by simp at h
theorem misL_self : ∀ A : List Bool, misL (cs A) A = 0
 | [] => rfl
 | a :: A => by
  show mis (cell a) a + misL (cs A) A = 0
  rw [misL_self A, mis_cell]
  cases a <;> rfl
theorem unrL_cs : ∀ A : List Bool, unrL (cs A) = 0
 | [] => rfl
 | a :: A => by
  show unrL (cell a :: cs A) = 0
  rw [unrL_cons, unrL_cs A]
  cases a <;> rfl
/-! ### received transitions -/
def pairs : List UInt8 → List (UInt8 × UInt8)
 | a :: b :: l => (a, b) :: pairs l
 | _ => []
theorem pairs_len : ∀ (n : Nat) (l : List UInt8), l.length = 2 * n → (pairs l).length = n
 | 0, [], _ => rfl
 | n + 1, a :: b :: l, h => by
  show (pairs l).length + 1 = _
  rw [pairs_len n l (by simp at h; omega)]
 | 0, a :: l, h => by simp at h
 | n + 1, [], h => by simp at h
 | n + 1, [a], h => by simp at h; omega
theorem pairs_get : ∀ (k : Nat) (l : List UInt8) (h : k < (pairs l).length) (h1 : 2 * k < l.length) (h2 : 2 * k + 1 < l.length), (pairs l)[k] = (l[2 * k], l[2 * k + 1])
 | 0, a :: b :: l, _, _, _ => rfl
 | k + 1, a :: b :: l, h, h1, h2 => by
  have := pairs_get k l (by simpa [pairs] using h) (by simp at h1; omega) (by simp at h2; omega)
  show (pairs l)[k]'_ = _
  rw [this]
  rfl
 | 0, [], h, _, _ => by simp [pairs] at h
 | 0, [a], h, _, _ => by simp [pairs] at h
 | k + 1, [], h, _, _ => by simp [pairs] at h
 | k + 1, [a], h, _, _ => by simp [pairs] at h
def mm (r : UInt8 × UInt8) (s1 s2 u : Bool) : Nat := mis r.1 (u ^^ s1 ^^ s2) + mis r.2 (u ^^ s2)
theorem mm_le (r : UInt8 × UInt8) (s1 s2 u : Bool) : mm r s1 s2 u ≤ 2 := by
 have h1 := mis_le r.1 (u ^^ s1 ^^ s2)
 have h2 := mis_le r.2 (u ^^ s2)
 unfold mm
 omega
def pc : List (UInt8 × UInt8) → Bool → Bool → List Bool → Nat
 | r :: R, s1, s2, u :: l => mm r s1 s2 u + pc R u s1 l
 | _, _, _, _ => 0
theorem pc_mis : ∀ (l : List Bool) (X : List UInt8) (s1 s2 : Bool), X.length = 2 * l.length → pc (pairs X) s1 s2 l = misL X (run s1 s2 l)
 | [], X, s1, s2, h => by
  have : X = [] := List.eq_nil_of_length_eq_zero (by simpa using h)
  subst this
  rfl
 | u :: l, [], _, _, h => by simp at h
 | u :: l, [x], _, _, h => by simp at h; omega
 | u :: l, x :: y :: X, s1, s2, h => by
  have ih := pc_mis l X u s1 (by simp at h; omega)
  show mm (x, y) s1 s2 u + pc (pairs X) u s1 l = mis x (u ^^ s1 ^^ s2) + (mis y (u ^^ s2) + misL X (run u s1 l))
  rw [ih]
  show mis x (u ^^ s1 ^^ s2) + mis y (u ^^ s2) + _ = _
  omega
structure Path (R : List (UInt8 × UInt8)) (s1 s2 : Bool) (l : List Bool) : Prop where
 len : l.length = R.length
 zero : fin s1 s2 l = (false, false)

/-! ### the table -/
abbrev Entry := Int × Nat
def add1 (e : Entry) (m : Nat) (a : Entry) : Entry :=
 if a.1 < 0 then e else
 if e.1 < 0 ∨ (m : Int) + a.1 < e.1 then ((m : Int) + a.1, a.2) else
 if (m : Int) + a.1 = e.1 then (e.1, 2) else e
def tb : List (UInt8 × UInt8) → Bool → Bool → Entry
 | [], s1, s2 => if s1 || s2 then (-1, 0) else (0, 1)
 | r :: R, s1, s2 => add1 (add1 (-1, 0) (mm r s1 s2 false) (tb R false s1)) (mm r s1 s2 true) (tb R true s1)
structure Ent (P : List Bool → Prop) (c : List Bool → Nat) (e : Entry) : Prop where
 neg : e.1 < 0 → e = (-1, 0) ∧ ∀ l, ¬ P l
 pos : 0 ≤ e.1 → (∃ l, P l ∧ (c l : Int) = e.1) ∧ (∀ l, P l → e.1 ≤ (c l : Int)) ∧ (e.2 = 1 ∨ e.2 = 2) ∧ (e.2 = 1 ↔ ∀ l l', P l → P l' → (c l : Int) = e.1 → (c l' : Int) = e.1 → l = l')
def Fst (u : Bool) (P : List Bool → Prop) (l : List Bool) : Prop := ∃ l', l = u :: l' ∧ P l'
theorem Ent.none (c : List Bool → Nat) : Ent (fun _ => False) c (-1, 0) := ⟨fun _ => ⟨rfl, fun _ h => h⟩, fun h => by simp at h⟩
theorem Ent.add {P Q : List Bool → Prop} {c c' : List Bool → Nat} {e a : Entry} {m : Nat} (h : Ent P c e) (k : Ent Q c' a) (u : Bool) (hd : ∀ l, P l → ¬ Fst u Q l) (hc : ∀ l, c (u :: l) = m + c' l) :
  Ent (fun l => P l ∨ Fst u Q l) c (add1 e m a) := by
 unfold add1
 by_cases ha : a.1 < 0
 ·rw [if_pos ha]
  have hq := (k.neg ha).2
  have hf : ∀ l, ¬ Fst u Q l := fun l ⟨l', _, hl⟩ => hq l' hl
  refine ⟨fun he => ⟨(h.neg he).1, fun l hl => hl.elim ((h.neg he).2 l) (hf l)⟩, fun he => ?_⟩
  obtain ⟨⟨l0, h0, h1⟩, h2, h3, h4⟩ := h.pos he
  refine ⟨⟨l0, .inl h0, h1⟩, fun l hl => hl.elim (h2 l) (fun x => absurd x (hf l)), h3, ?_⟩
  constructor
  ·intro h5 l l' hl hl'
   exact h4.1 h5 l l' (hl.resolve_right (hf l)) (hl'.resolve_right (hf l'))
  ·intro h5
   exact h4.2 fun l l' hl hl' => h5 l l' (.inl hl) (.inl hl')
 ·rw [if_neg ha]
  obtain ⟨⟨l1, k0, k1⟩, k2, k3, k4⟩ := k.pos (by omega)
  have hl1 : (c (u :: l1) : Int) = (m : Int) + a.1 := by rw [hc]; omega
  by_cases he : e.1 < 0
  ·rw [if_pos (.inl he)]
   have hn := (h.neg he).2
   refine ⟨fun h => by simp only at h; omega, fun _ => ⟨⟨u :: l1, .inr ⟨l1, rfl, k0⟩, hl1⟩, ?_, k3, ?_⟩⟩
   ·rintro l (hl | ⟨l', rfl, hl⟩)
    ·exact absurd hl (hn l)
    ·have := k2 l' hl
     rw [hc]
     simp only
     omega
   ·simp only
    constructor
    ·rintro h5 l l' (hl | ⟨q, rfl, hl⟩) (hl' | ⟨q', rfl, hl'⟩) e1 e2
     ·exact absurd hl (hn l)
     ·exact absurd hl (hn l)
     ·exact absurd hl' (hn l')
     ·rw [hc] at e1 e2
      rw [k4.1 h5 q q' hl hl' (by omega) (by omega)]
    ·intro h5
     refine k4.2 fun q q' hq hq' e1 e2 => ?_
     have := h5 (u :: q) (u :: q') (.inr ⟨q, rfl, hq⟩) (.inr ⟨q', rfl, hq'⟩) (by rw [hc]; omega) (by rw [hc]; omega)
     injection this
  ·obtain ⟨⟨l0, h0, h1⟩, h2, h3, h4⟩ := h.pos (by omega)
   by_cases hlt : (m : Int) + a.1 < e.1
   ·rw [if_pos (.inr hlt)]
    refine ⟨fun h => by simp only at h; omega, fun _ => ⟨⟨u :: l1, .inr ⟨l1, rfl, k0⟩, hl1⟩, ?_, k3, ?_⟩⟩
    ·rintro l (hl | ⟨l', rfl, hl⟩)
     ·have := h2 l hl
      simp only
      omega
     ·have := k2 l' hl
      rw [hc]
      simp only
      omega
    ·simp only
     constructor
     ·rintro h5 l l' (hl | ⟨q, rfl, hl⟩) (hl' | ⟨q', rfl, hl'⟩) e1 e2
      ·have := h2 l hl; omega
      ·have := h2 l hl; omega
      ·have := h2 l' hl'; omega
      ·rw [hc] at e1 e2
       rw [k4.1 h5 q q' hl hl' (by omega) (by omega)]
     ·intro h5
      refine k4.2 fun q q' hq hq' e1 e2 => ?_
      have := h5 (u :: q) (u :: q') (.inr ⟨q, rfl, hq⟩) (.inr ⟨q', rfl, hq'⟩) (by rw [hc]; omega) (by rw [hc]; omega)
      injection this
   ·rw [if_neg (by omega)]
    by_cases heq : (m : Int) + a.1 = e.1
    ·rw [if_pos heq]
     refine ⟨fun h => by simp only at h; omega, fun _ => ⟨⟨l0, .inl h0, h1⟩, ?_, .inr rfl, ?_⟩⟩
     ·rintro l (hl | ⟨l', rfl, hl⟩)
      ·exact h2 l hl
      ·have := k2 l' hl
       rw [hc]
       simp only
       omega
     ·constructor
      ·intro h5
       simp at h5
      ·intro h5
       have := h5 l0 (u :: l1) (.inl h0) (.inr ⟨l1, rfl, k0⟩) h1 (by rw [hl1]; exact heq)
       rw [this] at h0
       exact absurd ⟨l1, rfl, k0⟩ (hd _ h0)
    ·rw [if_neg heq]
     refine ⟨fun h => by omega, fun _ => ⟨⟨l0, .inl h0, h1⟩, ?_, h3, ?_⟩⟩
     ·rintro l (hl | ⟨l', rfl, hl⟩)
      ·exact h2 l hl
      ·have := k2 l' hl
       rw [hc]
       omega
     ·constructor
      ·rintro h5 l l' (hl | ⟨q, rfl, hl⟩) (hl' | ⟨q', rfl, hl'⟩) e1 e2
       ·exact h4.1 h5 l l' hl hl' e1 e2
       ·have := k2 q' hl'
        rw [hc] at e2
        omega
       ·have := k2 q hl
        rw [hc] at e1
        omega
       ·have := k2 q hl
        rw [hc] at e1
        omega
      ·intro h5
       exact h4.2 fun l l' hl hl' => h5 l l' (.inl hl) (.inl hl')
theorem Ent.cong {P Q : List Bool → Prop} {c : List Bool → Nat} {e : Entry} (h : Ent P c e) (k : ∀ l, P l ↔ Q l) : Ent Q c e := by
 have : P = Q := funext fun l => propext (k l)
 rw [← this]
 exact h
theorem tb_ok : ∀ (R : List (UInt8 × UInt8)) (s1 s2 : Bool), Ent (Path R s1 s2) (pc R s1 s2) (tb R s1 s2)
 | [], s1, s2 => by
  by_cases h : (s1 || s2) = true
  ·have e : tb [] s1 s2 = (-1, 0) := if_pos h
   rw [e]
   refine ⟨fun _ => ⟨rfl, fun l hl => ?_⟩, fun h => by simp at h⟩
   have : l = [] := List.eq_nil_of_length_eq_zero hl.len
   subst this
   have := hl.zero
   revert h this
   cases s1 <;> cases s2 <;> decide
  ·have e : tb [] s1 s2 = (0, 1) := if_neg h
   have hs : s1 = false ∧ s2 = false := by
    revert h
    cases s1 <;> cases s2 <;> decide
   obtain ⟨rfl, rfl⟩ := hs
   rw [e]
   refine ⟨fun h => by simp at h, fun _ => ⟨⟨[], ⟨rfl, rfl⟩, rfl⟩, fun l _ => ?_, .inl rfl, ?_⟩⟩
   ·show (0 : Int) ≤ (pc [] false false l : Int)
    omega
   ·refine ⟨fun _ l l' hl hl' _ _ => ?_, fun _ => rfl⟩
    rw [List.eq_nil_of_length_eq_zero hl.len, List.eq_nil_of_length_eq_zero hl'.len]
 | r :: R, s1, s2 => by
  have h0 := (Ent.none (pc (r :: R) s1 s2)).add (tb_ok R false s1) (m := mm r s1 s2 false) false (fun l h => h.elim) (fun l => rfl)
  have h1 := h0.add (tb_ok R true s1) (m := mm r s1 s2 true) true (by
   rintro l (h | ⟨q, rfl, _⟩) ⟨q', h', _⟩
   ·exact h
   ·cases h') (fun l => rfl)
  refine h1.cong fun l => ?_
  constructor
  ·rintro ((h | ⟨q, rfl, hq⟩) | ⟨q, rfl, hq⟩)
   ·exact h.elim
   ·exact ⟨by rw [List.length_cons, hq.len]; rfl, hq.zero⟩
   ·exact ⟨by rw [List.length_cons, hq.len]; rfl, hq.zero⟩
  ·intro h
   match l, h with
   | [], h => exact absurd h.len (by simp)
   | false :: q, h => exact .inl (.inr ⟨q, rfl, ⟨by have := h.len; simpa using this, h.zero⟩⟩)
   | true :: q, h => exact .inr ⟨q, rfl, ⟨by have := h.len; simpa using this, h.zero⟩⟩
theorem tb_int (R : List (UInt8 × UInt8)) (s1 s2 : Bool) : (tb R s1 s2).1 = -1 ∨ 0 ≤ (tb R s1 s2).1 := by
 by_cases h : (tb R s1 s2).1 < 0
 ·exact .inl (by rw [((tb_ok R s1 s2).neg h).1])
 ·exact .inr (by omega)
theorem tb_le : ∀ (R : List (UInt8 × UInt8)) (s1 s2 : Bool), (tb R s1 s2).1 ≤ 2 * (R.length : Int) ∧ (tb R s1 s2).2 ≤ 2 := by
 intro R s1 s2
 by_cases h : (tb R s1 s2).1 < 0
 ·rw [((tb_ok R s1 s2).neg h).1]
  constructor
  ·show (-1 : Int) ≤ _
   omega
  ·show 0 ≤ 2
   omega
 ·obtain ⟨⟨l, hl, hc⟩, _, h3, _⟩ := (tb_ok R s1 s2).pos (by omega)
  refine ⟨?_, by omega⟩
  rw [← hc]
  have : ∀ (R : List (UInt8 × UInt8)) (s1 s2 : Bool) (l : List Bool), pc R s1 s2 l ≤ 2 * R.length := by
   intro R
   induction R with
   | nil => intro s1 s2 l; exact Nat.le_refl _
   | cons r R ih =>
    intro s1 s2 l
    cases l with
    | nil => exact Nat.zero_le _
    | cons u l =>
     have h1 := ih u s1 l
     have h2 := mm_le r s1 s2 u
     show mm r s1 s2 u + pc R u s1 l ≤ _
     rw [List.length_cons]
     omega
  have := this R s1 s2 l
  omega

/-! ### the least path -/
/-- Is the first list not behind the second one? -/
def lxle : List Bool → List Bool → Bool
 | a :: l, b :: m => if a == b then lxle l m else b
 | _, _ => true
def dec : List (UInt8 × UInt8) → Bool → Bool → List Bool
 | [], _, _ => []
 | r :: R, s1, s2 => if (tb R false s1).1 < 0 ∨ (mm r s1 s2 false : Int) + (tb R false s1).1 ≠ (tb (r :: R) s1 s2).1 then true :: dec R true s1 else false :: dec R false s1
theorem dec_len : ∀ (R : List (UInt8 × UInt8)) (s1 s2 : Bool), (dec R s1 s2).length = R.length
 | [], _, _ => rfl
 | r :: R, s1, s2 => by
  unfold dec
  split
  ·rw [List.length_cons, dec_len R]; rfl
  ·rw [List.length_cons, dec_len R]; rfl
theorem dec_ok : ∀ (R : List (UInt8 × UInt8)) (s1 s2 : Bool), 0 ≤ (tb R s1 s2).1 → Path R s1 s2 (dec R s1 s2) ∧ (pc R s1 s2 (dec R s1 s2) : Int) = (tb R s1 s2).1 ∧ ∀ l, Path R s1 s2 l → (pc R s1 s2 l : Int) = (tb R s1 s2).1 → lxle (dec R s1 s2) l = true
 | [], s1, s2, h => by
  have hs : s1 = false ∧ s2 = false := by
   revert h
   cases s1 <;> cases s2 <;> decide
  obtain ⟨rfl, rfl⟩ := hs
  exact ⟨⟨rfl, rfl⟩, rfl, fun l _ _ => rfl⟩
 | r :: R, s1, s2, h => by
  obtain ⟨⟨l0, hl0, hc0⟩, hmin, _, _⟩ := (tb_ok (r :: R) s1 s2).pos h
  by_cases hz : (tb R false s1).1 < 0 ∨ (mm r s1 s2 false : Int) + (tb R false s1).1 ≠ (tb (r :: R) s1 s2).1
  ·have e : dec (r :: R) s1 s2 = true :: dec R true s1 := if_pos hz
   rw [e]
   -- no least path begins with 0
   have hno : ∀ q, Path (r :: R) s1 s2 (false :: q) → (pc (r :: R) s1 s2 (false :: q) : Int) ≠ (tb (r :: R) s1 s2).1 := by
    intro q hq hcq
    have hq' : Path R false s1 q := ⟨by have := hq.len; simpa using this, hq.zero⟩
    have hcc : (mm r s1 s2 false : Int) + (pc R false s1 q : Int) = (tb (r :: R) s1 s2).1 := by
     rw [← hcq]
     show _ = ((mm r s1 s2 false + pc R false s1 q : Nat) : Int)
     omega
    by_cases hneg : (tb R false s1).1 < 0
    ·exact ((tb_ok R false s1).neg hneg).2 q hq'
    ·obtain ⟨⟨l1, hl1, hc1⟩, hmin1, _, _⟩ := (tb_ok R false s1).pos (by omega)
     have h1 := hmin1 q hq'
     have h2 := hmin (false :: l1) ⟨by rw [List.length_cons, hl1.len]; rfl, hl1.zero⟩
     have h3 : (pc (r :: R) s1 s2 (false :: l1) : Int) = (mm r s1 s2 false : Int) + (pc R false s1 l1 : Int) := by
      show ((mm r s1 s2 false + pc R false s1 l1 : Nat) : Int) = _
      omega
     rcases hz with hz | hz
     ·exact hneg hz
     ·omega
   match l0, hl0, hc0 with
   | [], hl0, _ => exact absurd hl0.len (by simp)
   | false :: q, hl0, hc0 => exact absurd hc0 (hno q hl0)
   | true :: q, hl0, hc0 =>
    have hq : Path R true s1 q := ⟨by have := hl0.len; simpa using this, hl0.zero⟩
    have hpos : 0 ≤ (tb R true s1).1 := by
     by_cases hn : (tb R true s1).1 < 0
     ·exact absurd hq (((tb_ok R true s1).neg hn).2 q)
     ·omega
    obtain ⟨hp, hpc, hlx⟩ := dec_ok R true s1 hpos
    obtain ⟨_, hmin1, _, _⟩ := (tb_ok R true s1).pos hpos
    have h1 := hmin1 q hq
    have hP : Path (r :: R) s1 s2 (true :: dec R true s1) := ⟨by rw [List.length_cons, hp.len]; rfl, hp.zero⟩
    have h2 := hmin _ hP
    have h3 : ∀ q, (pc (r :: R) s1 s2 (true :: q) : Int) = (mm r s1 s2 true : Int) + (pc R true s1 q : Int) := fun q => by
     show ((mm r s1 s2 true + pc R true s1 q : Nat) : Int) = _
     omega
    have h4 : (pc (r :: R) s1 s2 (true :: dec R true s1) : Int) = (tb (r :: R) s1 s2).1 := by
     rw [h3] at h2 hc0 ⊢
     omega
    refine ⟨hP, h4, fun l hl hcl => ?_⟩
    match l, hl, hcl with
    | [], hl, _ => exact absurd hl.len (by simp)
    | false :: q', hl, hcl => exact absurd hcl (hno q' hl)
    | true :: q', hl, hcl =>
     show lxle (dec R true s1) q' = true
     refine hlx q' ⟨by have := hl.len; simpa using this, hl.zero⟩ ?_
     rw [h3] at hcl h4
     omega
  ·have e : dec (r :: R) s1 s2 = false :: dec R false s1 := if_neg hz
   rw [e]
   have hz1 : 0 ≤ (tb R false s1).1 := by
    by_cases h : (tb R false s1).1 < 0
    ·exact absurd (.inl h) hz
    ·omega
   have hz2 : (mm r s1 s2 false : Int) + (tb R false s1).1 = (tb (r :: R) s1 s2).1 := by
    by_cases h : (mm r s1 s2 false : Int) + (tb R false s1).1 = (tb (r :: R) s1 s2).1
    ·exact h
    ·exact absurd (.inr h) hz
   obtain ⟨hp, hpc, hlx⟩ := dec_ok R false s1 hz1
   have h3 : ∀ q, (pc (r :: R) s1 s2 (false :: q) : Int) = (mm r s1 s2 false : Int) + (pc R false s1 q : Int) := fun q => by
    show ((mm r s1 s2 false + pc R false s1 q : Nat) : Int) = _
    omega
   refine ⟨⟨by rw [List.length_cons, hp.len]; rfl, hp.zero⟩, by rw [h3, hpc]; exact hz2, fun l hl hcl => ?_⟩
   match l, hl, hcl with
   | [], hl, _ => exact absurd hl.len (by simp)
   | true :: q', hl, hcl => rfl
   | false :: q', hl, hcl =>
    show lxle (dec R false s1) q' = true
    refine hlx q' ⟨by have := hl.len; simpa using this, hl.zero⟩ ?_
    rw [h3] at hcl
    omega
/-! ### paths and bits -/
/-- A path that ends in state 0 ends with two zeros. -/
theorem path_end {l : List Bool} {s1 s2 : Bool} {n : Nat} (h : fin s1 s2 l = (false, false)) (hn : l.length = n + 2) : l = l.take n ++ [false, false] := by
 obtain ⟨p, q, rfl, hp⟩ : ∃ p q, l = p ++ q ∧ p.length = n := ⟨l.take n, l.drop n, (List.take_append_drop _ _).symm, by rw [List.length_take]; omega⟩
 rw [List.length_append] at hn
 match q, hn with
 | [a, b], _ =>
  rw [fin_app] at h
  have e : fin (fin s1 s2 p).1 (fin s1 s2 p).2 [a, b] = (b, a) := rfl
  rw [e] at h
  injection h with h1 h2
  subst h1 h2
  rw [List.take_left' hp]
 | [], hn => simp at hn; omega
 | [a], hn => simp at hn; omega
 | a :: b :: c :: q, hn => simp at hn; omega
theorem path_of (l : List Bool) (R : List (UInt8 × UInt8)) (h : R.length = l.length + 2) : Path R false false (l ++ [false, false]) := ⟨by rw [List.length_append, h]; rfl, by rw [fin_app]; rfl⟩
theorem lxle_left : ∀ (l m p : List Bool), l.length = m.length → lxle (l ++ p) (m ++ p) = lxle l m
 | [], [], p, _ => by
  show lxle p p = true
  induction p with
  | nil => rfl
  | cons a p ih => show (if a == a then lxle p p else a) = true; rw [beq_self_eq_true, if_pos rfl, ih]
 | a :: l, b :: m, p, h => by
  show (if a == b then lxle (l ++ p) (m ++ p) else b) = if a == b then lxle l m else b
  rw [lxle_left l m p (by simpa using h)]
 | [], b :: m, p, h => by simp at h
 | a :: l, [], p, h => by simp at h
end V10
namespace V10
open Go.RowKit C9

def rc (c : ByteArray) : List (UInt8 × UInt8) := pairs c.data.toList
def eB (c : ByteArray) : Int := if c.data.toList.all okC = true then (if c.size % 2 = 1 ∨ c.size < 4 then 4 else 0) else 3
def dS (c : ByteArray) : ByteArray := if eB c = 0 then sb ((dec (rc c) false false).take (c.size / 2 - 2)) else ⟨#[]⟩
def dN (c : ByteArray) : Int := if eB c = 0 then (tb (rc c) false false).1 else 0
def dB (c : ByteArray) : Bool := if eB c = 0 then decide ((tb (rc c) false false).2 = 1) else false
def Deco (c : ByteArray) (w : World) (e : Ending) (w' : World) : Prop := e = .returned (.tuple #[.string (dS c), .int .i64 (dN c), .bool (dB c), .int .i64 (eB c)]) ∧ Below w.heap.size w w'

theorem eB_syn {c : ByteArray} (h : c.data.toList.all okC = false) : eB c = 3 := by
 unfold eB
 rw [h, if_neg (by decide)]
theorem eB_short {c : ByteArray} (h : c.data.toList.all okC = true) (h1 : c.size % 2 = 1 ∨ c.size < 4) : eB c = 4 := by
 unfold eB
 rw [if_pos h, if_pos h1]
theorem eB_ok {c : ByteArray} (h : c.data.toList.all okC = true) {n : Nat} (hn : c.size = 2 * n + 4) : eB c = 0 := by
 unfold eB
 rw [if_pos h, if_neg (by omega)]
theorem eB_zero {c : ByteArray} (h : eB c = 0) : c.data.toList.all okC = true ∧ ∃ n, c.size = 2 * n + 4 := by
 unfold eB at h
 split at h
 ·next ho =>
  split at h
  ·cases h
  ·exact ⟨ho, (c.size - 4) / 2, by omega⟩
 ·cases h
structure Good (c : ByteArray) (n : Nat) (l : List Bool) : Prop where
 len : l.length = n
 str : dS c = sb l
 dist : dN c = (misL c.data.toList (enc l) : Int)
 min : ∀ l', l'.length = n → misL c.data.toList (enc l) ≤ misL c.data.toList (enc l')
 lex : ∀ l', l'.length = n → misL c.data.toList (enc l') = misL c.data.toList (enc l) → lxle l l' = true
 one : dB c = true ↔ ∀ l', l'.length = n → misL c.data.toList (enc l') = misL c.data.toList (enc l) → l' = l
theorem size_list (c : ByteArray) : c.data.toList.length = c.size := by rw [Array.length_toList]; rfl
theorem rc_len {c : ByteArray} {n : Nat} (hn : c.size = 2 * n + 4) : (rc c).length = n + 2 := pairs_len (n + 2) _ (by rw [size_list]; omega)
theorem pc_enc {c : ByteArray} {n : Nat} (hn : c.size = 2 * n + 4) (l : List Bool) (hl : l.length = n) : pc (rc c) false false (l ++ [false, false]) = misL c.data.toList (enc l) :=
 pc_mis _ _ _ _ (by rw [size_list, List.length_append, hl]; show _ = 2 * (n + 2); omega)
theorem good {c : ByteArray} (h : eB c = 0) {n : Nat} (hn : c.size = 2 * n + 4) : ∃ l, Good c n l := by
 have hr := rc_len hn
 have hz : 0 ≤ (tb (rc c) false false).1 := by
  by_cases hneg : (tb (rc c) false false).1 < 0
  ·exact absurd (path_of (List.replicate n false) (rc c) (by rw [hr, List.length_replicate])) (((tb_ok _ _ _).neg hneg).2 _)
  ·omega
 obtain ⟨hp, hc, hlx⟩ := dec_ok _ _ _ hz
 obtain ⟨_, hmin, _, hone⟩ := (tb_ok (rc c) false false).pos hz
 have hdl : (dec (rc c) false false).length = n + 2 := by rw [dec_len, hr]
 have hsp := path_end hp.zero hdl
 obtain ⟨l, hl⟩ : ∃ l, (dec (rc c) false false).take n = l := ⟨_, rfl⟩
 have hll : l.length = n := by rw [← hl, List.length_take]; omega
 rw [hl] at hsp
 rw [hsp, pc_enc hn l hll] at hc
 have hP : ∀ l', l'.length = n → Path (rc c) false false (l' ++ [false, false]) := fun l' h => path_of l' _ (by rw [hr, h])
 have h2 : c.size / 2 - 2 = n := by omega
 refine ⟨l, hll, ?_, ?_, ?_, ?_, ?_⟩
 ·unfold dS
  rw [if_pos h, h2, hl]
 ·unfold dN
  rw [if_pos h, hc]
 ·intro l' h'
  have := hmin _ (hP l' h')
  rw [pc_enc hn l' h'] at this
  omega
 ·intro l' h' he
  have := hlx _ (hP l' h') (by rw [pc_enc hn l' h', he]; exact hc)
  rw [hsp, lxle_left _ _ _ (by omega)] at this
  exact this
 ·unfold dB
  rw [if_pos h, decide_eq_true_eq, hone]
  constructor
  ·intro hu l' h' he
   have := hu _ _ (hP l' h') (hP l hll) (by rw [pc_enc hn l' h', he]; exact hc) (by rw [pc_enc hn l hll]; exact hc)
   exact List.append_cancel_right this
  ·intro hu p q hp' hq' e1 e2
   have hpe := path_end hp'.zero (hp'.len.trans hr)
   have hqe := path_end hq'.zero (hq'.len.trans hr)
   have hpl : (p.take n).length = n := by rw [List.length_take, hp'.len, hr]; omega
   have hql : (q.take n).length = n := by rw [List.length_take, hq'.len, hr]; omega
   rw [hpe, pc_enc hn _ hpl] at e1
   rw [hqe, pc_enc hn _ hql] at e2
   rw [hpe, hqe, hu _ hpl (by omega), hu _ hql (by omega)]
theorem Good.near {c : ByteArray} {n : Nat} {l b : List Bool} (h : Good c n l) (hn : c.size = 2 * n + 4) (hb : b.length = n) (hd : 2 * misL c.data.toList (enc b) + unrL c.data.toList < 5) : l = b ∧ dN c = (misL c.data.toList (enc b) : Int) ∧ dB c = true := by
 have far : ∀ l', l'.length = n → l' ≠ b → misL c.data.toList (enc b) < misL c.data.toList (enc l') := fun l' h' hne => by
  have h1 := distance (l := l') (m := b) (by omega) hne
  have h2 := triangle c.data.toList (enc l') (enc b) (by rw [size_list, enc_len]; omega) (by rw [size_list, enc_len]; omega)
  omega
 have e : l = b := by
  by_cases e : l = b
  ·exact e
  ·have h1 := far l h.len e
   have h2 := h.min b hb
   omega
 subst e
 refine ⟨rfl, h.dist, h.one.2 fun l' h' he => ?_⟩
 by_cases e : l' = l
 ·exact e
 ·have := far l' h' e
  omega
def least (a : Int) (m : Nat) (b : Int) : Int := if b < 0 then a else if a < 0 ∨ (m : Int) + b < a then (m : Int) + b else a
theorem add1_fst (e : Entry) (m : Nat) (a : Entry) : (add1 e m a).1 = least e.1 m a.1 := by
 unfold add1 least
 split
 ·rfl
 ·split
  ·rfl
  ·split <;> rfl
end V10
namespace V10
open C9

def lsN (a b : Int) : Int := if a = b then a else if b = -1 ∨ a < b then a else b
def chN (a b : Int) : Nat := if a = b then 2 else if b = -1 ∨ a < b then 0 else 1
theorem chN_le (a b : Int) : chN a b ≤ 2 := by
 unfold chN
 split
 ·omega
 ·split <;> omega
def viaN (m : Nat) (a : Int) : Int := if a = -1 then -1 else (m : Int) + a
def via (r : UInt8 × UInt8) (R : List (UInt8 × UInt8)) (s1 s2 u : Bool) : Int := viaN (mm r s1 s2 u) (tb R u s1).1
def chE (R : List (UInt8 × UInt8)) (s1 s2 : Bool) : Nat :=
 match R with
 | [] => 0
 | r :: R => chN (via r R s1 s2 false) (via r R s1 s2 true)
theorem chE_le (R : List (UInt8 × UInt8)) (s1 s2 : Bool) : chE R s1 s2 ≤ 2 := by
 cases R with
 | nil => exact Nat.zero_le _
 | cons r R => exact chN_le _ _
theorem fin_zeros : ∀ (n : Nat) (s1 s2 : Bool), fin s1 s2 (List.replicate (n + 2) false) = (false, false)
 | 0, s1, s2 => rfl
 | n + 1, s1, s2 => fin_zeros n false s1
theorem tb_zero_of_one (R : List (UInt8 × UInt8)) (s1 : Bool) (h : 0 ≤ (tb R true s1).1) : 0 ≤ (tb R false s1).1 := by
 obtain ⟨⟨l, hl, _⟩, _⟩ := (tb_ok R true s1).pos h
 have hp : Path R false s1 (List.replicate R.length false) := by
  refine ⟨List.length_replicate, ?_⟩
  have h1 := hl.len
  have h2 := hl.zero
  match l, h1, h2 with
  | [], _, h2 => cases h2
  | [u], _, h2 => cases h2
  | u :: v :: l, h1, _ =>
   rw [← h1]
   exact fin_zeros l.length false s1
 by_cases hn : (tb R false s1).1 < 0
 ·exact absurd hp (((tb_ok R false s1).neg hn).2 _)
 ·omega
theorem tb_cost (r : UInt8 × UInt8) (R : List (UInt8 × UInt8)) (s1 s2 : Bool) : (tb (r :: R) s1 s2).1 = lsN (via r R s1 s2 false) (via r R s1 s2 true) := by
 have hz := tb_zero_of_one R s1
 have h0 := tb_int R false s1
 have h1 := tb_int R true s1
 show (add1 (add1 (-1, 0) (mm r s1 s2 false) (tb R false s1)) (mm r s1 s2 true) (tb R true s1)).1 = _
 rw [add1_fst, add1_fst]
 unfold via
 generalize (tb R false s1).1 = a at *
 generalize (tb R true s1).1 = b at *
 generalize mm r s1 s2 false = m at *
 generalize mm r s1 s2 true = k at *
 have l0 : ∀ (n : Nat), least (-1) n a = viaN n a := fun n => by
  unfold least viaN
  by_cases ha : a = -1
  ·rw [if_pos (by omega), if_pos ha]
  ·rw [if_neg (by omega), if_pos (.inl (by decide)), if_neg ha]
 rw [l0]
 have ha : viaN m a = -1 ∨ 0 ≤ viaN m a := by
  unfold viaN
  split <;> omega
 by_cases hb : b = -1
 ·have e1 : viaN k b = -1 := if_pos hb
  have e2 : ∀ x, least x k b = x := fun x => if_pos (by omega)
  rw [e1, e2]
  unfold lsN
  split
  ·rfl
  ·rw [if_pos (.inl rfl)]
 ·have e1 : viaN k b = (k : Int) + b := if_neg hb
  have h3 : 0 ≤ a := hz (by omega)
  have e0 : viaN m a = (m : Int) + a := if_neg (by omega)
  rw [e1, e0]
  unfold least lsN
  rw [if_neg (by omega)]
  by_cases h4 : (m : Int) + a = (k : Int) + b
  ·rw [if_pos h4, if_neg (by omega)]
  ·rw [if_neg h4]
   by_cases h5 : (m : Int) + a < (k : Int) + b
   ·rw [if_neg (by omega), if_pos (.inr h5)]
   ·rw [if_pos (.inr (by omega)), if_neg (by omega)]
theorem dec_cho (r : UInt8 × UInt8) (R : List (UInt8 × UInt8)) (s1 s2 : Bool) (h : 0 ≤ (tb (r :: R) s1 s2).1) (u : Bool) (hu : u = decide (chE (r :: R) s1 s2 = 1)) :
  dec (r :: R) s1 s2 = u :: dec R u s1 ∧ 0 ≤ (tb R u s1).1 ∧ (decide ((tb (r :: R) s1 s2).2 = 1) = (decide (chE (r :: R) s1 s2 ≠ 2) && decide ((tb R u s1).2 = 1))) := by
 have hz := tb_zero_of_one R s1
 have h0 := tb_int R false s1
 have h1 := tb_int R true s1
 have hc := tb_cost r R s1 s2
 have hd : dec (r :: R) s1 s2 = if (tb R false s1).1 < 0 ∨ (mm r s1 s2 false : Int) + (tb R false s1).1 ≠ (tb (r :: R) s1 s2).1 then true :: dec R true s1 else false :: dec R false s1 := rfl
 have hp : (tb (r :: R) s1 s2).2 = (add1 (add1 (-1, 0) (mm r s1 s2 false) (tb R false s1)) (mm r s1 s2 true) (tb R true s1)).2 := rfl
 rw [hd, hp]
 have hch : chE (r :: R) s1 s2 = chN (via r R s1 s2 false) (via r R s1 s2 true) := rfl
 rw [hch] at hu ⊢
 have h00 : 0 ≤ (tb R false s1).1 := by
  by_cases hn : (tb R false s1).1 < 0
  ·have e0 : (tb R false s1).1 = -1 := by omega
   have e1 : (tb R true s1).1 = -1 := by
    by_cases h' : 0 ≤ (tb R true s1).1
    ·have := hz h'; omega
    ·omega
   rw [hc] at h
   unfold lsN via viaN at h
   rw [e0, e1] at h
   simp at h
  ·omega
 rw [hc]
 have v0 : via r R s1 s2 false = (mm r s1 s2 false : Int) + (tb R false s1).1 := by unfold via viaN; rw [if_neg (by omega)]
 have v1 : via r R s1 s2 true = if (tb R true s1).1 = -1 then -1 else (mm r s1 s2 true : Int) + (tb R true s1).1 := rfl
 have a0 : add1 (-1, 0) (mm r s1 s2 false) (tb R false s1) = ((mm r s1 s2 false : Int) + (tb R false s1).1, (tb R false s1).2) := by
  unfold add1
  rw [if_neg (by omega), if_pos (.inl (by decide))]
 rw [a0]
 clear hd hp hch a0
 rw [v0] at hu ⊢
 have hm0 : 0 ≤ (mm r s1 s2 false : Int) := by omega
 have hm1 : 0 ≤ (mm r s1 s2 true : Int) := by omega
 obtain ⟨a, ha⟩ : ∃ a, (mm r s1 s2 false : Int) + (tb R false s1).1 = a := ⟨_, rfl⟩
 have ha0 : 0 ≤ a := by omega
 rw [ha] at hu ⊢
 by_cases hn : (tb R true s1).1 = -1
 ·rw [v1, if_pos hn] at hu ⊢
  have e2 : lsN a (-1) = a := by unfold lsN; rw [if_neg (by omega), if_pos (.inl rfl)]
  have e3 : chN a (-1) = 0 := by unfold chN; rw [if_neg (by omega), if_pos (.inl rfl)]
  rw [e3] at hu ⊢
  have hu' : u = false := hu
  subst hu'
  rw [e2, if_neg (by omega)]
  refine ⟨rfl, h00, ?_⟩
  have e4 : add1 (a, (tb R false s1).2) (mm r s1 s2 true) (tb R true s1) = (a, (tb R false s1).2) := by
   unfold add1
   rw [if_pos (by omega)]
  rw [e4]
  simp
 ·have h10 : 0 ≤ (tb R true s1).1 := by omega
  rw [v1, if_neg hn] at hu ⊢
  obtain ⟨b, hb⟩ : ∃ b, (mm r s1 s2 true : Int) + (tb R true s1).1 = b := ⟨_, rfl⟩
  rw [hb] at hu ⊢
  have hb0 : 0 ≤ b := by omega
  have e4 : add1 (a, (tb R false s1).2) (mm r s1 s2 true) (tb R true s1) = if b < a then (b, (tb R true s1).2) else if b = a then (a, 2) else (a, (tb R false s1).2) := by
   unfold add1
   rw [if_neg (by omega), hb]
   by_cases hlt : b < a
   ·rw [if_pos (.inr hlt), if_pos hlt]
   ·rw [if_neg (by simp only; omega), if_neg hlt]
  rw [e4]
  by_cases hlt : b < a
  ·have e2 : lsN a b = b := by unfold lsN; rw [if_neg (by omega), if_neg (by omega)]
   have e3 : chN a b = 1 := by unfold chN; rw [if_neg (by omega), if_neg (by omega)]
   rw [e3] at hu ⊢
   have hu' : u = true := hu
   subst hu'
   rw [e2, if_pos (.inr (by omega)), if_pos hlt]
   exact ⟨rfl, h10, by simp⟩
  ·by_cases heq : b = a
   ·have e2 : lsN a b = a := by unfold lsN; rw [if_pos heq.symm]
    have e3 : chN a b = 2 := by unfold chN; rw [if_pos heq.symm]
    rw [e3] at hu ⊢
    have hu' : u = false := hu
    subst hu'
    rw [e2, if_neg (by omega), if_neg hlt, if_pos heq]
    exact ⟨rfl, h00, by simp⟩
   ·have e2 : lsN a b = a := by unfold lsN; rw [if_neg (by omega), if_pos (.inr (by omega))]
    have e3 : chN a b = 0 := by unfold chN; rw [if_neg (by omega), if_pos (.inr (by omega))]
    rw [e3] at hu ⊢
    have hu' : u = false := hu
    subst hu'
    rw [e2, if_neg (by omega), if_neg hlt, if_neg heq]
    exact ⟨rfl, h00, by simp⟩
structure Follow (R : List (UInt8 × UInt8)) (k : Nat) (s1 s2 q : Bool) : Prop where
 state : fin false false ((dec R false false).take k) = (s1, s2)
 rest : (dec R false false).drop k = dec (R.drop k) s1 s2
 pos : 0 ≤ (tb (R.drop k) s1 s2).1
 one : decide ((tb R false false).2 = 1) = (q && decide ((tb (R.drop k) s1 s2).2 = 1))
theorem Follow.start {R : List (UInt8 × UInt8)} (h : 0 ≤ (tb R false false).1) : Follow R 0 false false true := ⟨rfl, rfl, h, by simp⟩
theorem Follow.next {R : List (UInt8 × UInt8)} {k : Nat} {s1 s2 q : Bool} (h : Follow R k s1 s2 q) (hk : k < R.length) (u : Bool) (hu : u = decide (chE (R.drop k) s1 s2 = 1)) (hd : k < (dec R false false).length) :
  (dec R false false)[k] = u ∧ Follow R (k + 1) u s1 (q && decide (chE (R.drop k) s1 s2 ≠ 2)) := by
 have hr := List.drop_eq_getElem_cons hk
 have h3 := h.pos
 have h2 := h.rest
 have h4 := h.one
 rw [hr] at hu h2 h3 h4
 obtain ⟨g1, g2, g3⟩ := dec_cho _ _ s1 s2 h3 u hu
 rw [g1, List.drop_eq_getElem_cons hd] at h2
 injection h2 with e1 e2
 refine ⟨e1, ?_, ?_, ?_, ?_⟩
 ·rw [List.take_succ_eq_append_getElem hd, fin_app, h.state, e1]
  rfl
 ·exact e2
 ·exact g2
 ·rw [h4, g3, hr, Bool.and_assoc]
theorem Follow.done {R : List (UInt8 × UInt8)} {s1 s2 q : Bool} (h : Follow R R.length s1 s2 q) : decide ((tb R false false).2 = 1) = q := by
 have h1 := h.one
 have h2 := h.pos
 rw [List.drop_length] at h1 h2
 rw [h1]
 revert h2
 cases s1 <;> cases s2 <;> cases q <;> decide
def hi (s : Nat) : Bool := decide (2 ≤ s)
def lo (s : Nat) : Bool := decide (s % 2 = 1)
theorem stN_hilo : ∀ s, s < 4 → stN (hi s) (lo s) = s := by decide
theorem hi_lo_next (s : Nat) (u : Bool) : stN u (hi s) < 4 := by cases u <;> cases hi s <;> decide
end V10
namespace V10
open Go.RowKit Mem C9

theorem ochk (c : ByteArray) : C1.chk c.data.toList = if c.data.toList.all okC = true then 0 else 3 := rfl
set_option maxHeartbeats 4000000 in
theorem check_own (c : ByteArray) (w : World) (hc : c.size ≤ 1000000) : Calls Tryz.prog 162 #[.string c] w fun e w' => e = .returned (.int .i64 (eB c)) ∧ w = w' := by
 have c1 := C1.check_any c w hc
 rw [ochk] at c1
 cases ho : c.data.toList.all okC
 ·have he := eB_syn ho
  rw [ho, if_neg (by decide)] at c1
  replace c1 := Lib.hid c1
  replace he := Lib.hid he
  clear ho
  go_enter Tryz.func162, Tryz.ntmps162
  go_wp2_with fail
  refine c1.out.mono ?_
  rintro e w1 ⟨rfl, rfl⟩
  go_wp2
  go_ret
  exact ⟨(by rw [he.out]; rfl), rfl⟩
 ·rw [ho, if_pos rfl] at c1
  replace c1 := Lib.hid c1
  by_cases hodd : c.size % 2 = 1
  ·have he := Lib.hid (eB_short ho (.inl hodd))
   have q1 : (c.size : Int) % 2 = 1 := by omega
   clear ho
   go_enter Tryz.func162, Tryz.ntmps162
   go_wp2_with fail
   refine c1.out.mono ?_
   rintro e w1 ⟨rfl, rfl⟩
   go_wp2
   go_ret
   exact ⟨(by rw [he.out]; rfl), rfl⟩
  ·have q1 : (c.size : Int) % 2 = 0 := by omega
   have q1' : c.size % 2 = 0 := by omega
   obtain ⟨m, hm⟩ : ∃ m, c.size / 2 = m := ⟨_, rfl⟩
   have q2 : (c.size : Int) / 2 = (m : Int) := by omega
   by_cases hsh : c.size < 4
   ·have he := Lib.hid (eB_short ho (.inr hsh))
    have d1 : decide (m < 2) = true := decide_eq_true (by omega)
    have d2 : decide ((m : Int) < 2) = true := decide_eq_true (by omega)
    clear ho hodd hsh
    go_enter Tryz.func162, Tryz.ntmps162
    go_wp2_with fail
    refine c1.out.mono ?_
    rintro e w1 ⟨rfl, rfl⟩
    go_wp2
    go_ret
    exact ⟨(by rw [he.out]; rfl), rfl⟩
   ·have he := Lib.hid (eB_ok (n := (c.size - 4) / 2) ho (by omega))
    have d1 : decide (m < 2) = false := decide_eq_false (by omega)
    have d2 : decide ((m : Int) < 2) = false := decide_eq_false (by omega)
    clear ho hodd hsh
    go_enter Tryz.func162, Tryz.ntmps162
    go_wp2_with fail
    refine c1.out.mono ?_
    rintro e w1 ⟨rfl, rfl⟩
    go_wp2
    go_ret
    exact ⟨(by rw [he.out]; rfl), rfl⟩
theorem next_at (s1 s2 u : Bool) (w : World) : Calls Tryz.prog 122 #[.int .i64 (stN s1 s2 : Int), .int .i64 (bn u : Int)] w fun e w' =>
  e = .returned (.tuple #[.int .i64 (stN u s1 : Int), .string (sb [u ^^ s1 ^^ s2, u ^^ s2])]) ∧ Below w.heap.size w w' := by
 have h := next_own (stN s1 s2 : Int) (bn u : Int) w (by cases s1 <;> cases s2 <;> decide) (by cases s1 <;> cases s2 <;> decide) (by cases u <;> decide) (by cases u <;> decide)
 unfold Nxt at h
 rw [show oneB (stN s1 s2 : Int) = s1 by cases s1 <;> cases s2 <;> decide, show twoB (stN s1 s2 : Int) = s2 by cases s1 <;> cases s2 <;> decide, show twoB (bn u : Int) = u by cases u <;> decide] at h
 exact h
theorem diff_mis (x : UInt8) (a : Bool) : C1.diffB (x, cell a) = (x != 63 && x != cell a) := by
 unfold C1.diffB
 have e1 : (cell a != 63) = true := by cases a <;> rfl
 simp only [e1, Bool.and_true]
 rw [Bool.and_comm]
theorem dis_two (x y : UInt8) (a b : Bool) : C1.dis [x, y] [cell a, cell b] = mis x a + mis y b := by
 unfold C1.dis mis
 simp only [List.zip_cons_cons, List.zip_nil_right, List.filter_cons, diff_mis, List.filter_nil]
 split <;> split <;> rfl
theorem dist_two (x y : UInt8) (a b : Bool) (w : World) (hx : okC x = true) (hy : okC y = true) :
  Calls Tryz.prog 213 #[.string ⟨#[x, y]⟩, .string (sb [a, b])] w fun e w' => e = .returned (.tuple #[.int .i64 ((mis x a + mis y b : Nat) : Int), .int .i64 0]) ∧ ∃ n, w' = w.drewN n := by
 have h := C1.distance_any ⟨#[x, y]⟩ (sb [a, b]) w (by show 2 ≤ _; decide) (by show 2 ≤ _; decide)
 have h1 : C1.chk (⟨#[x, y]⟩ : ByteArray).data.toList = 0 := by
  rw [ochk]
  exact if_pos (by show (okC x && (okC y && true)) = true; rw [hx, hy]; rfl)
 have h2 : C1.chk (sb [a, b]).data.toList = 0 := by
  rw [ochk]
  exact if_pos (okC_sb [a, b])
 have h3 : C1.disN (⟨#[x, y]⟩ : ByteArray).data.toList (sb [a, b]).data.toList = ((mis x a + mis y b : Nat) : Int) := by
  unfold C1.disN
  rw [if_pos ⟨h1, h2, rfl⟩]
  show ((C1.dis [x, y] [cell a, cell b] : Nat) : Int) = _
  rw [dis_two]
 have h4 : C1.disE (⟨#[x, y]⟩ : ByteArray).data.toList (sb [a, b]).data.toList = 0 := C1.disE_eq h1 h2 rfl
 rw [h3, h4] at h
 exact h
def vec (f : Nat → Int) : List Value := [.int .i64 (f 0), .int .i64 (f 1), .int .i64 (f 2), .int .i64 (f 3)]
theorem vec_arr (f : Nat → Int) (s : Nat) (hs : s < 4) : (#[.int .i64 (f 0), .int .i64 (f 1), .int .i64 (f 2), .int .i64 (f 3)] : Array Value)[s]? = some (.int .i64 (f s)) := by
 have : s = 0 ∨ s = 1 ∨ s = 2 ∨ s = 3 := by omega
 rcases this with rfl | rfl | rfl | rfl <;> rfl
set_option maxHeartbeats 4000000 in
theorem cvia_own (E : Nat → Int) (x y : UInt8) (s1 s2 u : Bool) (w : World) (hx : okC x = true) (hy : okC y = true) (hE : ∀ j, j < 4 → -1 ≤ E j ∧ E j ≤ 1000000) :
  Calls Tryz.prog 199 #[.agg #[.int .i64 (E 0), .int .i64 (E 1), .int .i64 (E 2), .int .i64 (E 3)], .string ⟨#[x, y]⟩, .int .i64 (stN s1 s2 : Int), .int .i64 (bn u : Int)] w fun e w' =>
   e = .returned (.int .i64 (viaN (mm (x, y) s1 s2 u) (E (stN u s1)))) ∧ Below w.heap.size w w' := by
 have cN := fun W => next_at s1 s2 u W
 have cD := fun W => dist_two x y (u ^^ s1 ^^ s2) (u ^^ s2) W hx hy
 have hm : mis x (u ^^ s1 ^^ s2) + mis y (u ^^ s2) = mm (x, y) s1 s2 u := rfl
 rw [hm] at cD
 have hS4 : stN u s1 < 4 := by cases u <;> cases s1 <;> decide
 have hml := mm_le (x, y) s1 s2 u
 obtain ⟨O, hO⟩ : ∃ O, sb [u ^^ s1 ^^ s2, u ^^ s2] = O := ⟨_, rfl⟩
 obtain ⟨I, hI⟩ : ∃ O : ByteArray, (⟨#[x, y]⟩ : ByteArray) = O := ⟨_, rfl⟩
 obtain ⟨S, hS⟩ : ∃ S, stN u s1 = S := ⟨_, rfl⟩
 obtain ⟨s, hs⟩ : ∃ S, stN s1 s2 = S := ⟨_, rfl⟩
 obtain ⟨b, hb⟩ : ∃ S, bn u = S := ⟨_, rfl⟩
 obtain ⟨m, hmm⟩ : ∃ S, mm (x, y) s1 s2 u = S := ⟨_, rfl⟩
 rw [hO, hS, hs, hb] at cN
 rw [hO, hI, hmm] at cD
 rw [hS] at hS4 ⊢
 rw [hmm] at hml ⊢
 rw [hI, hs, hb]
 have hc0 : (w.alloc (.cells #[.int .i64 (E 0), .int .i64 (E 1), .int .i64 (E 2), .int .i64 (E 3)] 178)).cell? ⟨w.heap.size, S, none⟩ = some (.int .i64 (E S)) := by
  rw [World.cell?_alloc_new]
  exact vec_arr E S hS4
 have hES := hE S hS4
 obtain ⟨a, ha⟩ : ∃ a, E S = a := ⟨_, rfl⟩
 rw [ha] at hc0 hES ⊢
 have hB0 : Below w.heap.size w (w.alloc (.cells #[.int .i64 (E 0), .int .i64 (E 1), .int .i64 (E 2), .int .i64 (E 3)] 178)) := (Below.refl _ w).alloc (Nat.le_refl _) _
 have hlt0 : w.heap.size < (w.alloc (.cells #[.int .i64 (E 0), .int .i64 (E 1), .int .i64 (E 2), .int .i64 (E 3)] 178)).heap.size := by simp
 have i0 : (0 : Int) ≤ (S : Int) := by omega
 have i1 : (S : Int) < 4 := by omega
 replace cN := Lib.hid cN
 replace cD := Lib.hid cD
 clear hm hO hI hS hs hb hmm ha hE hx hy
 by_cases hn : a = -1
 ·have hv := Lib.hid (show viaN m a = -1 by unfold viaN; rw [if_pos hn])
  have dn : ((a : Int) == -1) = true := beq_iff_eq.2 hn
  clear hn
  go_enter Tryz.func199, Tryz.ntmps199
  go_wp2_with fail
  refine (cN.out _).mono ?_
  rintro e w1 ⟨rfl, hb1⟩
  have hc1 := (hb1.cell (p := ⟨w.heap.size, S, none⟩) hlt0).trans hc0
  have hB1 := chain hB0 hb1
  clear hc0 hB0 hlt0 hb1
  go_wp2
  go_ret
  exact ⟨(by rw [hv.out]; rfl), hB1⟩
 ·have hv := Lib.hid (show viaN m a = (m : Int) + a by unfold viaN; rw [if_neg hn])
  have dn : ((a : Int) == -1) = false := beq_eq_false_iff_ne.2 hn
  clear hn
  go_enter Tryz.func199, Tryz.ntmps199
  go_wp2_with fail
  refine (cN.out _).mono ?_
  rintro e w1 ⟨rfl, hb1⟩
  have hc1 := (hb1.cell (p := ⟨w.heap.size, S, none⟩) hlt0).trans hc0
  have hB1 := chain hB0 hb1
  clear hc0 hB0 hlt0 hb1
  go_wp2_with fail
  refine (cD.out _).mono ?_
  rintro e w2 ⟨rfl, N, rfl⟩
  go_wp2
  go_ret
  exact ⟨(by rw [hv.out]; rfl), chainN hB1 N⟩
set_option maxHeartbeats 4000000 in
theorem lesser_own (a b : Int) (w : World) : Calls Tryz.prog 198 #[.int .i64 a, .int .i64 b] w fun e w' => e = .returned (.tuple #[.int .i64 (lsN a b), .int .u8 (chN a b : Int)]) ∧ w = w' := by
 unfold lsN chN
 by_cases h1 : a = b
 ·have d1 : ((a : Int) == b) = true := beq_iff_eq.2 h1
  rw [if_pos h1, if_pos h1]
  clear h1
  go_enter Tryz.func198, Tryz.ntmps198
  go_wp2
  go_ret2
  exact ⟨rfl, rfl⟩
 ·have d1 : ((a : Int) == b) = false := beq_eq_false_iff_ne.2 h1
  rw [if_neg h1, if_neg h1]
  by_cases h2 : b = -1
  ·have d2 : ((b : Int) == -1) = true := beq_iff_eq.2 h2
   rw [if_pos (.inl h2), if_pos (.inl h2)]
   clear h1 h2
   go_enter Tryz.func198, Tryz.ntmps198
   go_wp2
   go_ret2
   exact ⟨rfl, rfl⟩
  ·have d2 : ((b : Int) == -1) = false := beq_eq_false_iff_ne.2 h2
   by_cases h3 : a < b
   ·have d3 : decide (a < b) = true := decide_eq_true h3
    rw [if_pos (.inr h3), if_pos (.inr h3)]
    clear h1 h2
    go_enter Tryz.func198, Tryz.ntmps198
    go_wp2
    go_ret2
    exact ⟨rfl, rfl⟩
   ·have d3 : decide (a < b) = false := decide_eq_false h3
    rw [if_neg (fun h => h.elim h2 h3), if_neg (fun h => h.elim h2 h3)]
    clear h1 h2
    go_enter Tryz.func198, Tryz.ntmps198
    go_wp2
    go_ret2
    exact ⟨rfl, rfl⟩
end V10
end Go.Proofs.YtiodkllckcpinaaGreatDoor
