/- Facts and contracts that the walks of this layer use, merged: F13Far, F13Int. -/
import Derived.Test.YtgpdfkallgjocaaGreatDoorM13AH
import Derived.Test.YtgpdfkallgjocaaGreatDoorM13AI
namespace Go.Proofs.YtgpdfkallgjocaaGreatDoor.F13
open C9 V10
set_option linter.unusedVariables false
set_option linter.unusedSimpArgs false

def spaced : Nat → List Bool → Bool
  | _, [] => true
  | c, e :: E => if e then c == 0 && spaced 7 E else spaced (c - 1) E
def gain (d e : Bool) : Int := if d then (if e then -1 else 1) else 0
def gn : List Bool → List Bool → Int
  | d :: D, e :: E => gain d e + gn D E
  | _, _ => 0
def pot (s1 s2 : Bool) (c : Nat) : Int :=
  match s1, s2 with
  | false, false => 0
  | false, true => if c < 2 then 0 else if c < 6 then 1 else 2
  | true, _ => if c < 4 then 1 else 2
theorem pot_step : ∀ (s1 s2 u e1 e2 : Bool) (c : Fin 8), (e1 = true → c.1 = 0) → (e2 = true → (if e1 then 7 else c.1 - 1) = 0) →
    pot s1 s2 c.1 ≤ gain (u ^^ s1 ^^ s2) e1 + gain (u ^^ s2) e2 + pot u s1 (if e2 then 7 else (if e1 then 7 else c.1 - 1) - 1) := by decide
theorem pot_out : ∀ (e1 e2 : Bool) (c : Fin 8), (e1 = true → c.1 = 0) → (e2 = true → (if e1 then 7 else c.1 - 1) = 0) →
    1 ≤ gain true e1 + gain true e2 + pot true false (if e2 then 7 else (if e1 then 7 else c.1 - 1) - 1) := by decide
theorem pot_end : ∀ (s1 s2 : Bool) (c : Nat), s1 = false → s2 = false → pot s1 s2 c = 0 := by
  rintro _ _ c rfl rfl
  rfl
theorem sp_cons {c : Nat} {e : Bool} {E : List Bool} (h : spaced c (e :: E) = true) : (e = true → c = 0) ∧ spaced (if e then 7 else c - 1) E = true := by
  cases e
  · exact ⟨fun h => (by cases h), h⟩
  · have h' : (c == 0 && spaced 7 E) = true := h
    rw [Bool.and_eq_true, beq_iff_eq] at h'
    exact ⟨fun _ => h'.1, h'.2⟩
theorem cool_lt {c : Nat} (h : c < 8) (e : Bool) : (if e then 7 else c - 1) < 8 := by cases e <;> simp <;> omega
theorem pot_le : ∀ (l : List Bool) (s1 s2 : Bool) (c : Nat) (E : List Bool), c < 8 → E.length = 2 * l.length → fin s1 s2 l = (false, false) → spaced c E = true → pot s1 s2 c ≤ gn (run s1 s2 l) E
  | [], s1, s2, c, E, _, _, h, _ => by
    have h1 : s1 = false := congrArg Prod.fst h
    have h2 : s2 = false := congrArg Prod.snd h
    rw [pot_end s1 s2 c h1 h2]
    exact Int.le_refl _
  | u :: l, s1, s2, c, [], _, h, _, _ => by simp at h
  | u :: l, s1, s2, c, [e], _, h, _, _ => by simp at h; omega
  | u :: l, s1, s2, c, e1 :: e2 :: E, hc, h, hf, hs => by
    obtain ⟨h1, hs1⟩ := sp_cons hs
    obtain ⟨h2, hs2⟩ := sp_cons hs1
    have hc1 := cool_lt hc e1
    have hc2 := cool_lt hc1 e2
    have ih := pot_le l u s1 _ E hc2 (by simp at h; omega) hf hs2
    have st := pot_step s1 s2 u e1 e2 ⟨c, hc⟩ h1 h2
    show pot s1 s2 c ≤ gain (u ^^ s1 ^^ s2) e1 + (gain (u ^^ s2) e2 + gn (run u s1 l) E)
    have st' : pot s1 s2 c ≤ gain (u ^^ s1 ^^ s2) e1 + gain (u ^^ s2) e2 + pot u s1 (if e2 then 7 else (if e1 then 7 else c - 1) - 1) := st
    omega
theorem out_le : ∀ (l : List Bool) (c : Nat) (E : List Bool), c < 8 → E.length = 2 * l.length → fin false false l = (false, false) → (∃ b ∈ l, b = true) → spaced c E = true → 1 ≤ gn (run false false l) E
  | [], c, E, _, _, _, h, _ => by
    obtain ⟨b, hb, _⟩ := h
    cases hb
  | u :: l, c, [], _, h, _, _, _ => by simp at h
  | u :: l, c, [e], _, h, _, _, _ => by simp at h; omega
  | u :: l, c, e1 :: e2 :: E, hc, h, hf, hb, hs => by
    obtain ⟨h1, hs1⟩ := sp_cons hs
    obtain ⟨h2, hs2⟩ := sp_cons hs1
    have hc1 := cool_lt hc e1
    have hc2 := cool_lt hc1 e2
    have hE : E.length = 2 * l.length := by simp at h; omega
    cases u
    · have := out_le l _ E hc2 hE hf (by
        obtain ⟨b, hb, e⟩ := hb
        rcases List.mem_cons.1 hb with rfl | hb
        · cases e
        · exact ⟨b, hb, e⟩) hs2
      show 1 ≤ gain false e1 + (gain false e2 + gn (run false false l) E)
      have z : ∀ e, gain false e = 0 := by decide
      rw [z, z]
      omega
    · have ih := pot_le l true false _ E hc2 hE hf hs2
      have st := pot_out e1 e2 ⟨c, hc⟩ h1 h2
      have st' : 1 ≤ gain true e1 + gain true e2 + pot true false (if e2 then 7 else (if e1 then 7 else c - 1) - 1) := st
      show 1 ≤ gain true e1 + (gain true e2 + gn (run true false l) E)
      omega
def chL : List UInt8 → List Bool → List Bool
  | x :: X, a :: A => (x != cell a) :: chL X A
  | _, _ => []
theorem chL_len : ∀ (X : List UInt8) (A : List Bool), X.length = A.length → (chL X A).length = A.length
  | [], [], _ => rfl
  | x :: X, a :: A, h => by
    show (chL X A).length + 1 = A.length + 1
    rw [chL_len X A (by simpa using h)]
  | [], a :: A, h => by simp at h
  | x :: X, [], h => by simp at h
theorem chL_get : ∀ (X : List UInt8) (A : List Bool) (i : Nat) (h1 : i < X.length) (h2 : i < A.length) (h3 : i < (chL X A).length), (chL X A)[i] = (X[i] != cell A[i])
  | x :: X, a :: A, 0, _, _, _ => rfl
  | x :: X, a :: A, i + 1, h1, h2, h3 => chL_get X A i (by simpa using h1) (by simpa using h2) (by
    have : i + 1 < (chL X A).length + 1 := h3
    omega)
  | [], A, i, h1, _, _ => by simp at h1
  | x :: X, [], i, _, h2, _ => by simp at h2
theorem gain_mis (x : UInt8) (a b : Bool) : (mis x a : Int) + gain (a ^^ b) (x != cell a) ≤ (mis x b : Int) := by
  by_cases h : x = cell a
  · have e : (x != cell a) = false := by rw [h]; exact bne_self_eq_false _
    rw [e, h, mis_cell, mis_cell]
    cases a <;> cases b <;> decide
  · have e : (x != cell a) = true := bne_iff_ne.2 h
    have h1 := mis_le x a
    rw [e]
    by_cases hab : a = b
    · subst hab
      rw [Bool.xor_self]
      show (mis x a : Int) + 0 ≤ _
      omega
    · have : (a ^^ b) = true := by revert hab; cases a <;> cases b <;> decide
      rw [this]
      show (mis x a : Int) + (-1) ≤ _
      omega
theorem gn_mis : ∀ (X : List UInt8) (A B : List Bool), X.length = A.length → X.length = B.length → (misL X A : Int) + gn (xo A B) (chL X A) ≤ (misL X B : Int)
  | [], [], [], _, _ => Int.le_refl _
  | x :: X, a :: A, b :: B, h1, h2 => by
    have ih := gn_mis X A B (by simpa using h1) (by simpa using h2)
    have g := gain_mis x a b
    show ((mis x a + misL X A : Nat) : Int) + (gain (a ^^ b) (x != cell a) + gn (xo A B) (chL X A)) ≤ ((mis x b + misL X B : Nat) : Int)
    omega
  | [], a :: A, _, h, _ => by simp at h
  | [], [], b :: B, _, h => by simp at h
  | x :: X, [], _, h, _ => by simp at h
  | x :: X, a :: A, [], _, h => by simp at h
theorem far {X : List UInt8} {b l : List Bool} (hX : X.length = (enc b).length) (hl : l.length = b.length) (hne : l ≠ b) (hs : spaced 0 (chL X (enc b)) = true) : misL X (enc b) < misL X (enc l) := by
  have hlen : (enc b).length = (enc l).length := by rw [enc_len, enc_len, hl]
  have h1 := gn_mis X (enc b) (enc l) hX (by omega)
  have hx : b.length = l.length := hl.symm
  rw [← enc_xo hx] at h1
  have h2 := out_le (xo b l ++ [false, false]) 0 (chL X (enc b)) (by decide) (by rw [chL_len _ _ hX, enc_len, List.length_append, xo_len _ _ hx]; show _ = 2 * (_ + 2); omega) (by rw [fin_app]; rfl)
    (by
      obtain ⟨c, hc, e⟩ := xo_true b l hx (fun e => hne e.symm)
      exact ⟨c, List.mem_append_left _ hc, e⟩) hs
  have h2' : 1 ≤ gn (enc (xo b l)) (chL X (enc b)) := h2
  omega
theorem near {c : ByteArray} {n : Nat} {l b : List Bool} (h : V10.Good c n l) (hn : c.size = 2 * n + 4) (hb : b.length = n) (hs : spaced 0 (chL c.data.toList (enc b)) = true) : l = b ∧ dN c = (misL c.data.toList (enc b) : Int) ∧ dB c = true := by
  have far : ∀ l', l'.length = n → l' ≠ b → misL c.data.toList (enc b) < misL c.data.toList (enc l') := fun l' h' hne =>
    far (by rw [size_list, enc_len]; omega) (by omega) hne hs
  have e : l = b := by
    by_cases e : l = b
    · exact e
    · have h1 := far l h.len e
      have h2 := h.min b hb
      omega
  subst e
  refine ⟨rfl, h.dist, h.one.2 fun l' h' he => ?_⟩
  by_cases e : l' = l
  · exact e
  · have := far l' h' e
    omega
theorem sp_of : ∀ (E : List Bool) (c : Nat), (∀ i, i < c → E[i]? ≠ some true) → (∀ i j, i < j → j < i + 8 → E[i]? = some true → E[j]? ≠ some true) → spaced c E = true
  | [], _, _, _ => rfl
  | e :: E, c, h1, h2 => by
    have tail : ∀ i j, i < j → j < i + 8 → E[i]? = some true → E[j]? ≠ some true := fun i j a b => h2 (i + 1) (j + 1) (by omega) (by omega)
    cases e
    · exact sp_of E (c - 1) (fun i hi => h1 (i + 1) (by omega)) tail
    · have hc : c = 0 := by
        by_cases hc : c = 0
        · exact hc
        · exact absurd rfl (h1 0 (by omega))
      have := sp_of E 7 (fun i hi => h2 0 (i + 1) (by omega) (by omega) rfl) tail
      show (c == 0 && spaced 7 E) = true
      rw [hc, this]
      rfl
end Go.Proofs.YtgpdfkallgjocaaGreatDoor.F13
namespace Go.Proofs.YtgpdfkallgjocaaGreatDoor.F13
open C9 V10 I11
set_option linter.unusedVariables false
set_option linter.unusedSimpArgs false

def Apart (X : List UInt8) (A : List Bool) : Prop := ∀ i j, i < j → j < i + 8 → X.getD i 0 ≠ (cs A).getD i 0 → X.getD j 0 = (cs A).getD j 0
theorem ch_true {X : List UInt8} {A : List Bool} (hl : X.length = A.length) {i : Nat} (h : (chL X A)[i]? = some true) : X.getD i 0 ≠ (cs A).getD i 0 ∧ i < A.length := by
  have hi : i < (chL X A).length := by
    by_cases hi : i < (chL X A).length
    · exact hi
    · rw [List.getElem?_eq_none (by omega)] at h
      cases h
  have hA : i < A.length := by rw [chL_len X A hl] at hi; exact hi
  rw [List.getElem?_eq_getElem hi, chL_get X A i (by omega) hA hi] at h
  have hne := bne_iff_ne.1 (Option.some.inj h)
  refine ⟨fun e => hne ?_, hA⟩
  rw [getD_of (by omega), getD_of (by rw [cs_len]; exact hA)] at e
  rw [e]
  unfold cs
  rw [List.getElem_map]
theorem Apart.sp {X : List UInt8} {A : List Bool} (h : Apart X A) (hl : X.length = A.length) : spaced 0 (chL X A) = true :=
  sp_of _ 0 (fun i hi => by omega) fun i j hij hj h1 h2 => (ch_true hl h2).1 (h i j hij hj (ch_true hl h1).1)
theorem burst {A : List Bool} {c : List UInt8} (hA : A.length = 836) (hc : c.length = 836) (a : Nat) (h : ∀ p, p < 836 → c.getD p 0 ≠ (il 8 (cs A)).getD p 0 → a ≤ p ∧ p < a + 90) : Apart (dl 8 c) A := by
  have hcs : (cs A).length = 836 := by rw [cs_len, hA]
  have key : ∀ i, i < 836 → (dl 8 c).getD i 0 ≠ (cs A).getD i 0 → a ≤ pos 836 8 i ∧ pos 836 8 i < a + 90 := fun i hi hne => by
    refine h _ (pos_lt (by decide) hi) fun e => hne ?_
    rw [dl_at 8 c (by omega), hc, e]
    have := il_at (r := 8) (by decide) (cs A) (i := i) (by omega)
    rw [hcs] at this
    exact this
  have out : ∀ i, ¬ i < 836 → (dl 8 c).getD i 0 = (cs A).getD i 0 := fun i hi => by
    rw [List.getD_eq_getElem?_getD, List.getD_eq_getElem?_getD, List.getElem?_eq_none (by rw [dl_len, hc]; omega), List.getElem?_eq_none (by rw [hcs]; omega)]
  intro i j hij hj hi
  by_cases hj2 : j < 836
  · by_cases hi2 : i < 836
    · by_cases e : (dl 8 c).getD j 0 = (cs A).getD j 0
      · exact e
      · have k1 := key i hi2 hi
        have k2 := key j hj2 e
        have := spread (n := 836) (r := 8) (by decide) hi2 hj2 (by omega) (by show _ < _ + 103; omega) (by show _ < _ + 103; omega)
        omega
    · exact absurd (out i hi2) hi
  · exact out j hj2
theorem Apart.same (A : List Bool) : Apart (cs A) A := fun i j _ _ h => absurd rfl h
theorem getD_set (l : List UInt8) (k : Nat) (y : UInt8) (i : Nat) : (l.set k y).getD i 0 = if i = k ∧ k < l.length then y else l.getD i 0 := by
  rw [List.getD_eq_getElem?_getD, List.getD_eq_getElem?_getD, List.getElem?_set]
  by_cases h : k = i
  · subst h
    rw [if_pos rfl]
    by_cases hk : k < l.length
    · rw [if_pos hk, if_pos ⟨rfl, hk⟩]
      rfl
    · rw [if_neg hk, if_neg (fun h => hk h.2), List.getElem?_eq_none (by omega)]
  · rw [if_neg h, if_neg (fun e => h e.1.symm)]
theorem Apart.set {X : List UInt8} {A : List Bool} (h : Apart X A) (k : Nat) (y : UInt8) (hk : ∀ i, X.getD i 0 ≠ (cs A).getD i 0 → i + 8 ≤ k) : Apart (X.set k y) A := by
  intro i j hij hj hi
  rw [getD_set] at hi ⊢
  have hik : i ≠ k → X.getD i 0 ≠ (cs A).getD i 0 := fun e => by rwa [if_neg (fun h => e h.1)] at hi
  by_cases e : j = k
  · have := hk i (hik (by omega))
    omega
  · rw [if_neg (fun h => e h.1)]
    by_cases e2 : i = k
    · subst e2
      by_cases e3 : X.getD j 0 = (cs A).getD j 0
      · exact e3
      · have := hk j e3
        omega
    · exact h i j hij hj (hik e2)
end Go.Proofs.YtgpdfkallgjocaaGreatDoor.F13
