/- The lexer as plain functions: tokens, errors, lines. No program is named here. -/
import Derived.Test.YtpnnkdgoaeibbaaDoorMem
import Derived.Lib.ItoaNum
namespace Go.Proofs.YtpnnkdgoaeibbaaDoor.L19
open Mem
set_option linter.unusedVariables false
set_option linter.unusedSimpArgs false

/-! ### Bytes -/
def isDg (c : UInt8) : Bool := decide (48 ≤ c.toNat) && decide (c.toNat ≤ 57)
def isLt (c : UInt8) : Bool := decide (97 ≤ c.toNat) && decide (c.toNat ≤ 122)
def isUp (c : UInt8) : Bool := decide (65 ≤ c.toNat) && decide (c.toNat ≤ 90)
def isLa (c : UInt8) : Bool := isLt c || isUp c
def isNm (c : UInt8) : Bool := isLt c || isDg c || c == 95
def isBl (c : UInt8) : Bool := c == 32 || c == 9 || c == 10
def isLn (c : UInt8) : Bool := !(c == 10)
def isAl (c : UInt8) : Bool := isLa c || c == 95
def isQt (c : UInt8) : Bool := decide (32 ≤ c.toNat) && decide (c.toNat ≤ 126) && !(c == 39) && !(c == 92)
theorem all8 {P : UInt8 → Bool} (h : (List.range 256).all (fun n => P (UInt8.ofNat n)) = true) (c : UInt8) : P c = true := by
  have := (List.all_eq_true.1 h) c.toNat (List.mem_range.2 c.toNat_lt)
  simpa using this
theorem imp8 {P Q : UInt8 → Bool} (h : (List.range 256).all (fun n => !P (UInt8.ofNat n) || Q (UInt8.ofNat n)) = true) {c : UInt8} (hc : P c = true) : Q c = true := by
  have := all8 (P := fun c => !P c || Q c) h c
  simpa [hc] using this
theorem not8 {P Q : UInt8 → Bool} (h : (List.range 256).all (fun n => !P (UInt8.ofNat n) || !Q (UInt8.ofNat n)) = true) {c : UInt8} (hc : P c = true) : Q c = false := by
  have := all8 (P := fun c => !P c || !Q c) h c
  simpa [hc] using this

/-! ### How many bytes at the beginning have a property -/
def pre (p : UInt8 → Bool) (l : List UInt8) : Nat := (l.takeWhile p).length
theorem pre_at {p : UInt8 → Bool} {l : List UInt8} {k : Nat} (hk : k < l.length) (h : ∀ c ∈ l.take k, p c = true) (hn : p l[k] = false) : pre p l = k := by
  have e : l = l.take k ++ l[k] :: l.drop (k + 1) := by rw [List.getElem_cons_drop, List.take_append_drop]
  unfold pre
  rw [e, List.takeWhile_append_of_pos h, List.takeWhile_cons_of_neg (by rw [hn]; simp), List.append_nil, List.length_take]
  omega
theorem pre_all {p : UInt8 → Bool} {l : List UInt8} (h : ∀ c ∈ l, p c = true) : pre p l = l.length := by
  unfold pre
  have : l.takeWhile p = l := by
    have := List.takeWhile_append_of_pos (l₂ := []) h
    simpa using this
  rw [this]
theorem take_pre (p : UInt8 → Bool) (l : List UInt8) : l.take (pre p l) = l.takeWhile p := by
  unfold pre
  conv => lhs; rw [← List.takeWhile_append_dropWhile (p := p) (l := l)]
  rw [List.take_left']
  rw [List.takeWhile_append_dropWhile]
theorem drop_pre (p : UInt8 → Bool) (l : List UInt8) : l.drop (pre p l) = l.dropWhile p := by
  unfold pre
  conv => lhs; rw [← List.takeWhile_append_dropWhile (p := p) (l := l)]
  rw [List.drop_left']
  rw [List.takeWhile_append_dropWhile]
theorem while_mem {p : UInt8 → Bool} : ∀ {l : List UInt8}, ∀ c ∈ l.takeWhile p, p c = true := by
  intro l
  induction l with
  | nil => simp
  | cons d r ih =>
    intro c hc
    rw [List.takeWhile_cons] at hc
    split at hc
    · rcases List.mem_cons.1 hc with rfl | hc
      · assumption
      · exact ih c hc
    · cases hc
theorem while_head {p : UInt8 → Bool} : ∀ {l : List UInt8}, ∀ c ∈ (l.dropWhile p).head?, p c = false := by
  intro l
  induction l with
  | nil => simp
  | cons d r ih =>
    intro c hc
    rw [List.dropWhile_cons] at hc
    split at hc
    · exact ih c hc
    · simp at hc
      subst hc
      simpa using ‹¬ p d = true›
theorem pre_le (p : UInt8 → Bool) (l : List UInt8) : pre p l ≤ l.length := (List.takeWhile_sublist _).length_le
theorem pre_pos {p : UInt8 → Bool} {c : UInt8} {r : List UInt8} (h : p c = true) : 1 ≤ pre p (c :: r) := by
  unfold pre
  rw [List.takeWhile_cons_of_pos h]
  simp
theorem pre_zero {p : UInt8 → Bool} {c : UInt8} {r : List UInt8} (h : p c = false) : pre p (c :: r) = 0 := by
  unfold pre
  rw [List.takeWhile_cons_of_neg (by simp [h])]
  rfl
theorem drop_while_le (p : UInt8 → Bool) (l : List UInt8) : (l.dropWhile p).length ≤ l.length := (List.dropWhile_sublist _).length_le
theorem pre_app {p : UInt8 → Bool} {l : List UInt8} (h : ∀ c ∈ l, p c = true) (m : List UInt8) : pre p (l ++ m) = l.length + pre p m := by
  unfold pre
  rw [List.takeWhile_append_of_pos h, List.length_append]
/-- A byte without the property ends it. -/
theorem pre_sep {p : UInt8 → Bool} {c : UInt8} (hc : p c = false) (b : List UInt8) : ∀ l : List UInt8, pre p (l ++ c :: b) = pre p l
  | [] => by rw [List.nil_append, pre_zero hc]; rfl
  | d :: r => by
    have ih := pre_sep hc b r
    unfold pre at ih ⊢
    rw [List.cons_append, List.takeWhile_cons, List.takeWhile_cons]
    split
    · rw [List.length_cons, List.length_cons, ih]
    · rfl

/-! ### The token at the beginning of a text -/
structure F where
  k : Nat
  T : List UInt8
  m : Nat
  e : Nat
deriving DecidableEq
def bad (e : Nat) : F := ⟨0, [], 0, e⟩
def good (k : Nat) (T : List UInt8) (m : Nat) : F := ⟨k, T, m, 0⟩
def nval (l : List UInt8) : Nat := l.foldl (fun a c => 10 * a + (c.toNat - 48)) 0
/-- Without leading zeros. -/
def val0 (l : List UInt8) : List UInt8 := if l.dropWhile (· == 48) = [] then [48] else l.dropWhile (· == 48)
def num (l : List UInt8) : F :=
  if ((l.drop (pre isDg l)).head?.map isAl).getD false then bad 3
  else if 4294967295 < nval (val0 (l.take (pre isDg l))) then bad 2
  else good 1 (val0 (l.take (pre isDg l))) (pre isDg l)
def kws : List (List UInt8) := [[97, 114, 114, 97, 121], [101, 108, 115, 101], [102, 117, 110, 99], [104, 97, 108, 116], [105, 102], [114, 101, 116, 117, 114, 110], [118, 97, 114], [119, 104, 105, 108, 101]]
def wkind (T : List UInt8) : Nat := if kws.contains T then 3 else 2
def wrd (l : List UInt8) : F :=
  if 24 < pre isNm l then bad 7 else good (wkind (l.take (pre isNm l))) (l.take (pre isNm l)) (pre isNm l)
def chr : List UInt8 → F
  | _ :: c :: d :: _ => if isQt c && d == 39 then good 1 (Lib.decDigits c.toNat) 3 else bad 3
  | _ => bad 3
def two : List (List UInt8) := [[38, 38], [124, 124], [61, 61], [33, 61], [60, 61], [62, 61]]
def ones : List UInt8 := [60, 62, 94, 43, 45, 42, 47, 37, 33, 61, 40, 41, 123, 125, 91, 93, 44, 59]
def sgl (l : List UInt8) : Nat := if two.contains (l.take 2) then 2 else if (l.head?.map ones.contains).getD false then 1 else 0
def sgn (l : List UInt8) : F := if sgl l = 0 then bad 3 else good 4 (l.take (sgl l)) (sgl l)
def fst : List UInt8 → F
  | [] => bad 3
  | c :: r => if isDg c then num (c :: r) else if isLt c then wrd (c :: r) else if c == 39 then chr (c :: r) else sgn (c :: r)

/-! ### The tokens of a text -/
/-- Kind, text, line. -/
abbrev Tok := Nat × List UInt8 × Nat
/-- Tokens, the line of the error, the error (or 0). -/
abbrev Res := List Tok × Nat × Nat
def addL (l : List Tok) (r : Res) : Res := (l ++ r.1, r.2)
theorem addL_nil (r : Res) : addL [] r = r := rfl
theorem addL_addL (l m : List Tok) (r : Res) : addL l (addL m r) = addL (l ++ m) r := by unfold addL; rw [List.append_assoc]
def lx : Nat → Nat → List UInt8 → Res
  | 0, _, _ => ([], 0, 0)
  | _ + 1, _, [] => ([], 0, 0)
  | f + 1, n, c :: r =>
    if c = 10 then lx f (n + 1) r
    else if c = 32 ∨ c = 9 then lx f n r
    else if c = 47 ∧ r.head? = some 47 then lx f n (r.dropWhile isLn)
    else if (fst (c :: r)).e = 0 then addL [((fst (c :: r)).k, (fst (c :: r)).T, n)] (lx f n ((c :: r).drop (fst (c :: r)).m))
    else ([], n, (fst (c :: r)).e)
def tk (n : Nat) (l : List UInt8) : Res := lx l.length n l

theorem fst_len {l : List UInt8} (h : (fst l).e = 0) : 1 ≤ (fst l).m ∧ (fst l).m ≤ l.length := by
  cases l with
  | nil => simp [fst, bad] at h
  | cons c r =>
    unfold fst at h ⊢
    dsimp only at h ⊢
    by_cases h1 : isDg c = true
    · rw [if_pos h1] at h ⊢
      unfold num at h ⊢
      split at h
      · simp [bad] at h
      · rename_i hA
        rw [if_neg hA]
        split at h
        · simp [bad] at h
        · rename_i hB
          rw [if_neg hB]
          exact ⟨pre_pos h1, pre_le _ _⟩
    rw [if_neg h1] at h ⊢
    by_cases h2 : isLt c = true
    · rw [if_pos h2] at h ⊢
      unfold wrd at h ⊢
      split at h
      · simp [bad] at h
      · rename_i hA
        rw [if_neg hA]
        exact ⟨pre_pos (by unfold isNm; rw [h2]; rfl), pre_le _ _⟩
    rw [if_neg h2] at h ⊢
    by_cases h3 : (c == 39) = true
    · rw [if_pos h3] at h ⊢
      match r, h with
      | [], h => simp [chr, bad] at h
      | [_], h => simp [chr, bad] at h
      | x :: y :: z, h =>
        unfold chr at h ⊢
        dsimp only at h ⊢
        split at h
        · rename_i hA
          rw [if_pos hA]
          simp [good]
        · simp [bad] at h
    · rw [if_neg h3] at h ⊢
      unfold sgn at h ⊢
      split at h
      · simp [bad] at h
      · rename_i hA
        rw [if_neg hA]
        refine ⟨by unfold good; dsimp only; omega, ?_⟩
        unfold good sgl
        dsimp only
        split
        · rename_i hB
          have : ∀ x ∈ two, x.length = 2 := by decide
          have h2l := this ((c :: r).take 2) (by simpa using hB)
          have := List.length_take_le' 2 (c :: r)
          omega
        · split <;> simp
theorem lx_len : ∀ (f : Nat) (l : List UInt8) (n : Nat), l.length ≤ f → lx f n l = tk n l := by
  intro f
  induction f using Nat.strongRecOn with
  | ind f ih =>
    intro l n h
    cases l with
    | nil => cases f <;> rfl
    | cons c r =>
      cases f with
      | zero => simp at h
      | succ f =>
        have h : r.length ≤ f := by simpa using h
        have two (x : Nat) (m : List UInt8) (hm : m.length ≤ r.length) : lx f x m = lx r.length x m := by
          rw [ih f (by omega) m x (by omega), ih r.length (by omega) m x hm]
        unfold tk
        rw [List.length_cons, lx, lx, two _ r (Nat.le_refl _), two _ r (Nat.le_refl _), two _ _ (drop_while_le _ _)]
        by_cases he : (fst (c :: r)).e = 0
        · have := (fst_len he).1
          rw [two _ ((c :: r).drop (fst (c :: r)).m) (by rw [List.length_drop, List.length_cons]; omega)]
        · rw [if_neg he, if_neg he]
theorem tk_nil (n : Nat) : tk n [] = ([], 0, 0) := rfl
theorem tk_ten (n : Nat) (r : List UInt8) : tk n (10 :: r) = tk (n + 1) r := by
  unfold tk; rw [List.length_cons, lx, if_pos rfl]
theorem tk_bl (n : Nat) {c : UInt8} (r : List UInt8) (h : c = 32 ∨ c = 9) : tk n (c :: r) = tk n r := by
  unfold tk; rw [List.length_cons, lx, if_neg (by rintro rfl; simp at h), if_pos h]
theorem tk_cm (n : Nat) (r : List UInt8) (h : r.head? = some 47) : tk n (47 :: r) = tk n (r.dropWhile isLn) := by
  conv => lhs; unfold tk
  rw [List.length_cons, lx, if_neg (by decide), if_neg (by decide), if_pos ⟨rfl, h⟩]
  exact lx_len _ _ _ (drop_while_le _ _)
/-- Neither white space nor a comment begins here. -/
def Sta (c : UInt8) (r : List UInt8) : Prop := c ≠ 10 ∧ c ≠ 32 ∧ c ≠ 9 ∧ ¬ (c = 47 ∧ r.head? = some 47)
theorem tk_tok (n : Nat) {c : UInt8} {r : List UInt8} (h : Sta c r) (he : (fst (c :: r)).e = 0) : tk n (c :: r) = addL [((fst (c :: r)).k, (fst (c :: r)).T, n)] (tk n ((c :: r).drop (fst (c :: r)).m)) := by
  conv => lhs; unfold tk
  rw [List.length_cons, lx, if_neg h.1, if_neg (by rintro (e | e); exact h.2.1 e; exact h.2.2.1 e), if_neg h.2.2.2, if_pos he]
  rw [lx_len _ _ _ (by rw [List.length_drop, List.length_cons]; have := (fst_len he).1; omega)]
theorem tk_bad (n : Nat) {c : UInt8} {r : List UInt8} (h : Sta c r) (he : (fst (c :: r)).e ≠ 0) : tk n (c :: r) = ([], n, (fst (c :: r)).e) := by
  unfold tk
  rw [List.length_cons, lx, if_neg h.1, if_neg (by rintro (e | e); exact h.2.1 e; exact h.2.2.1 e), if_neg h.2.2.2, if_neg he]
/-- An induction over what the lexer does. -/
theorem lx_ind {P : List UInt8 → Prop} (h0 : P []) (h1 : ∀ r, P r → P (10 :: r)) (h2 : ∀ c r, (c = 32 ∨ c = 9) → P r → P (c :: r)) (h3 : ∀ r, r.head? = some 47 → P (r.dropWhile isLn) → P (47 :: r))
    (h4 : ∀ c r, Sta c r → (fst (c :: r)).e = 0 → P ((c :: r).drop (fst (c :: r)).m) → P (c :: r)) (h5 : ∀ c r, Sta c r → (fst (c :: r)).e ≠ 0 → P (c :: r)) : ∀ l, P l := by
  have main : ∀ (n : Nat) (l : List UInt8), l.length ≤ n → P l := by
    intro n
    induction n with
    | zero =>
      intro l hl
      obtain rfl : l = [] := List.eq_nil_of_length_eq_zero (by omega)
      exact h0
    | succ n ih =>
      intro l hl
      cases l with
      | nil => exact h0
      | cons c r =>
        have hl : r.length ≤ n := by rw [List.length_cons] at hl; omega
        have hw : (r.dropWhile isLn).length ≤ n := Nat.le_trans (drop_while_le _ _) hl
        have ihr := ih r hl
        have ihw := ih _ hw
        by_cases e1 : c = 10
        · subst e1; exact h1 r ihr
        by_cases e2 : c = 32 ∨ c = 9
        · exact h2 c r e2 ihr
        by_cases e3 : c = 47 ∧ r.head? = some 47
        · obtain ⟨rfl, e3⟩ := e3
          exact h3 r e3 ihw
        have hs : Sta c r := ⟨e1, fun h => e2 (.inl h), fun h => e2 (.inr h), e3⟩
        by_cases he : (fst (c :: r)).e = 0
        · exact h4 c r hs he (ih _ (by rw [List.length_drop, List.length_cons]; have := (fst_len he).1; omega))
        · exact h5 c r hs he
  exact fun l => main l.length l (Nat.le_refl _)
/-- What Tokens hands back. -/
def ans (s : List UInt8) : Res := if 60000 < s.length then ([], 0, 6) else if (tk 1 s).2.2 = 0 then ((tk 1 s).1, 0, 0) else ([], (tk 1 s).2)

/-! ### Gaps -/
def gp (l : List UInt8) : Nat := if l.take 2 = [47, 47] then pre isLn l else pre isBl l
theorem gp_le (l : List UInt8) : gp l ≤ l.length := by unfold gp; split <;> exact pre_le _ _
theorem blanks (l : List UInt8) : ∀ n, tk n l = tk (n + (l.takeWhile isBl).count 10) (l.dropWhile isBl) := by
  induction l with
  | nil => intro n; rfl
  | cons c r ih =>
    intro n
    by_cases h : isBl c = true
    · rw [List.takeWhile_cons_of_pos h, List.dropWhile_cons_of_pos h]
      by_cases e1 : c = 10
      · subst e1
        rw [tk_ten, ih, List.count_cons_self]
        congr 1; omega
      · have e2 : c = 32 ∨ c = 9 := by
          unfold isBl at h
          simp only [Bool.or_eq_true, beq_iff_eq] at h
          rcases h with (h | h) | h
          · exact .inl h
          · exact .inr h
          · exact absurd h e1
        rw [tk_bl _ _ e2, ih, List.count_cons_of_ne (by simpa using e1)]
    · rw [List.takeWhile_cons_of_neg h, List.dropWhile_cons_of_neg h]
      rfl
theorem count_ln (l : List UInt8) : (l.takeWhile isLn).count 10 = 0 := by
  rw [List.count_eq_zero]
  intro h
  have := while_mem _ h
  simp [isLn] at this
/-- A gap is passed over. -/
theorem tk_gap (n : Nat) (l : List UInt8) : tk n l = tk (n + (l.take (gp l)).count 10) (l.drop (gp l)) := by
  unfold gp
  split
  · rename_i h
    rw [take_pre, drop_pre, count_ln, Nat.add_zero]
    match l, h with
    | [], h => simp at h
    | [_], h => simp at h
    | c :: d :: r, h =>
      have hc : c = 47 := by simp at h; exact h.1
      have hd : d = 47 := by simp at h; exact h.2
      subst hc hd
      rw [tk_cm _ _ rfl]
      exact congrArg (tk n) (List.dropWhile_cons_of_pos (p := isLn) (a := 47) (l := 47 :: r) (by decide)).symm
  · rw [take_pre, drop_pre]
    exact blanks l n
theorem gp_zero {c : UInt8} {r : List UInt8} (h : gp (c :: r) = 0) : Sta c r := by
  unfold gp at h
  split at h
  · rename_i h2
    have : c = 47 := by simp at h2; exact h2.1
    subst this
    have := pre_pos (p := isLn) (c := 47) (r := r) (by decide)
    omega
  · rename_i h2
    by_cases hb : isBl c = true
    · have := pre_pos (p := isBl) (c := c) (r := r) hb
      omega
    · unfold isBl at hb
      simp only [Bool.not_eq_true, Bool.or_eq_false_iff, beq_eq_false_iff_ne] at hb
      refine ⟨hb.2, hb.1.1, hb.1.2, ?_⟩
      rintro ⟨rfl, h3⟩
      apply h2
      cases r with
      | nil => simp at h3
      | cons d r => simp at h3; subst h3; simp
end Go.Proofs.YtpnnkdgoaeibbaaDoor.L19
