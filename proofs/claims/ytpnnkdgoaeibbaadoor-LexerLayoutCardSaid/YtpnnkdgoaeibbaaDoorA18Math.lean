/- The assembler as plain functions: tokens, labels, the text, the way back. No program is named here. -/
import Derived.Test.YtpnnkdgoaeibbaaDoorMem
namespace Go.Proofs.YtpnnkdgoaeibbaaDoor.A18
open Mem
set_option linter.unusedVariables false
set_option linter.unusedSimpArgs false

/-! ### Bytes -/
def sgs : List UInt8 := [43, 45, 42, 47, 37, 94, 60, 64, 33, 63, 58, 59, 44, 46, 36]
def isDg (c : UInt8) : Bool := decide (48 ≤ c.toNat) && decide (c.toNat ≤ 57)
def isSg (c : UInt8) : Bool := sgs.contains c
def isIn (c : UInt8) : Bool := isDg c || isSg c
def isSp (c : UInt8) : Bool := c == 32 || c == 10
def isTk (c : UInt8) : Bool := !(c == 32) && !(c == 10) && !(c == 35)
def isLt (c : UInt8) : Bool := decide (97 ≤ c.toNat) && decide (c.toNat ≤ 122)
def isNm (c : UInt8) : Bool := isLt c || isDg c || c == 95
theorem all8 {P : UInt8 → Bool} (h : (List.range 256).all (fun n => P (UInt8.ofNat n)) = true) (c : UInt8) : P c = true := by
  have := (List.all_eq_true.1 h) c.toNat (List.mem_range.2 c.toNat_lt)
  simpa using this
theorem in_tk (c : UInt8) : isIn c = true → isTk c = true := by
  have := all8 (P := fun c => !isIn c || isTk c) (by decide +kernel) c
  intro h; simpa [h] using this
theorem nm_tk (c : UInt8) : isNm c = true → isTk c = true := by
  have := all8 (P := fun c => !isNm c || isTk c) (by decide +kernel) c
  intro h; simpa [h] using this
theorem lt_in (c : UInt8) : isLt c = true → isIn c = false := by
  have := all8 (P := fun c => !isLt c || !isIn c) (by decide +kernel) c
  intro h; simpa [h] using this
theorem dg_sg (c : UInt8) : isDg c = true → isSg c = false := by
  have := all8 (P := fun c => !isDg c || !isSg c) (by decide +kernel) c
  intro h; simpa [h] using this
theorem in_sp (c : UInt8) : isIn c = true → isSp c = false := by
  have := all8 (P := fun c => !isIn c || !isSp c) (by decide +kernel) c
  intro h; simpa [h] using this
theorem tk_sp {c : UInt8} (h : isTk c = true) : c ≠ 10 ∧ c ≠ 35 ∧ c ≠ 32 := by
  unfold isTk at h
  simp only [Bool.and_eq_true, Bool.not_eq_true', beq_eq_false_iff_ne] at h
  exact ⟨h.1.2, h.2, h.1.1⟩

/-! ### Tokens: a word and its line -/
abbrev Tok := List UInt8 × Nat
def fl (n : Nat) (cur : List UInt8) : List Tok := if cur = [] then [] else [(cur, n)]
theorem fl_nil (n : Nat) : fl n [] = [] := rfl
theorem fl_cons {n : Nat} {cur : List UInt8} (h : cur ≠ []) : fl n cur = [(cur, n)] := if_neg h
/-- The tokens of what is left: the line, whether a comment runs, the word so far. -/
def tk : Nat → Bool → List UInt8 → List UInt8 → List Tok
  | n, _, cur, [] => fl n cur
  | n, cm, cur, c :: r =>
    if c = 10 then fl n cur ++ tk (n + 1) false [] r
    else if cm then tk n true cur r
    else if c = 35 then fl n cur ++ tk n true [] r
    else if c = 32 then fl n cur ++ tk n false [] r
    else tk n false (cur ++ [c]) r
def toks (s : List UInt8) : List Tok := tk 1 false [] s
def wof (l : List Tok) : List (List UInt8) := l.map (·.1)
theorem tk_nil (n : Nat) (cm : Bool) (cur : List UInt8) : tk n cm cur [] = fl n cur := by unfold tk; rfl
theorem tk_ten (n : Nat) (cm : Bool) (cur r : List UInt8) : tk n cm cur (10 :: r) = fl n cur ++ tk (n + 1) false [] r := by rw [tk]; rfl
theorem tk_cm (n : Nat) (cur r : List UInt8) {c : UInt8} (h : c ≠ 10) : tk n true cur (c :: r) = tk n true cur r := by rw [tk, if_neg h]; rfl
theorem tk_hash (n : Nat) (cur r : List UInt8) : tk n false cur (35 :: r) = fl n cur ++ tk n true [] r := by rw [tk]; rfl
theorem tk_space (n : Nat) (cur r : List UInt8) : tk n false cur (32 :: r) = fl n cur ++ tk n false [] r := by rw [tk]; rfl
theorem tk_in (n : Nat) (cur r : List UInt8) {c : UInt8} (h : isTk c = true) : tk n false cur (c :: r) = tk n false (cur ++ [c]) r := by
  obtain ⟨h1, h2, h3⟩ := tk_sp h
  rw [tk, if_neg h1, if_neg (by simp), if_neg h2, if_neg h3]
theorem tk_word (n : Nat) (r : List UInt8) : ∀ (w cur : List UInt8), (∀ c ∈ w, isTk c = true) → tk n false cur (w ++ r) = tk n false (cur ++ w) r := by
  intro w
  induction w with
  | nil => intro cur _; simp
  | cons c w ih =>
    intro cur h
    rw [List.cons_append, tk_in n cur _ (h c (by simp)), ih _ (fun d hd => h d (by simp [hd])), List.append_assoc]
    rfl
theorem tk_end (n : Nat) (cur r : List UInt8) (h : ∀ c ∈ r.head?, isTk c = false) : tk n false cur r = fl n cur ++ tk n false [] r := by
  cases r with
  | nil => simp [tk_nil, fl_nil]
  | cons c r =>
    have hc := h c (by simp)
    unfold isTk at hc
    by_cases h1 : c = 10
    · subst h1; rw [tk_ten, tk_ten, fl_nil, List.nil_append]
    by_cases h2 : c = 35
    · subst h2; rw [tk_hash, tk_hash, fl_nil, List.nil_append]
    by_cases h3 : c = 32
    · subst h3; rw [tk_space, tk_space, fl_nil, List.nil_append]
    · simp [h1, h2, h3] at hc
theorem tk_line (n : Nat) (cur r : List UInt8) : ∀ w : List UInt8, (∀ c ∈ w, c ≠ 10) → tk n true cur (w ++ r) = tk n true cur r := by
  intro w
  induction w with
  | nil => intro _; rfl
  | cons c w ih =>
    intro h
    rw [List.cons_append, tk_cm n cur _ (h c (by simp)), ih fun d hd => h d (by simp [hd])]
theorem tk_cmend (n : Nat) (r : List UInt8) (h : ∀ c ∈ r.head?, c = 10) : tk n true [] r = tk n false [] r := by
  cases r with
  | nil => rfl
  | cons c r =>
    obtain rfl := h c (by simp)
    rw [tk_ten, tk_ten]

/-- What is said of a word: not empty, no space in it. -/
def Wd (w : List UInt8) : Prop := w ≠ [] ∧ ∀ c ∈ w, isTk c = true
theorem fl_wd {n : Nat} {cur : List UInt8} (h : ∀ c ∈ cur, isTk c = true) : ∀ t ∈ fl n cur, Wd t.1 := by
  intro t ht
  unfold fl at ht
  split at ht
  · cases ht
  · rename_i hne
    rw [List.mem_singleton.1 ht]
    exact ⟨hne, h⟩
theorem tk_wd : ∀ (s : List UInt8) (n : Nat) (cm : Bool) (cur : List UInt8), (∀ c ∈ cur, isTk c = true) → ∀ t ∈ tk n cm cur s, Wd t.1 := by
  intro s
  induction s with
  | nil => intro n cm cur h t ht; rw [tk_nil] at ht; exact fl_wd h t ht
  | cons c r ih =>
    intro n cm cur h t ht
    rw [tk] at ht
    split at ht
    · rcases List.mem_append.1 ht with ht | ht
      · exact fl_wd h t ht
      · exact ih _ _ _ (by simp) t ht
    split at ht
    · exact ih _ _ _ h t ht
    split at ht
    · rcases List.mem_append.1 ht with ht | ht
      · exact fl_wd h t ht
      · exact ih _ _ _ (by simp) t ht
    split at ht
    · rcases List.mem_append.1 ht with ht | ht
      · exact fl_wd h t ht
      · exact ih _ _ _ (by simp) t ht
    · rename_i h1 h2 h3 h4
      refine ih _ _ _ (fun d hd => ?_) t ht
      rcases List.mem_append.1 hd with hd | hd
      · exact h d hd
      · rw [List.mem_singleton.1 hd]
        unfold isTk
        simp [h1, h3, h4]
theorem toks_wd (s : List UInt8) : ∀ t ∈ toks s, Wd t.1 := tk_wd s 1 false [] (by simp)
theorem wof_wd (s : List UInt8) : ∀ w ∈ wof (toks s), Wd w := fun w hw => by
  obtain ⟨t, ht, rfl⟩ := List.mem_map.1 hw
  exact toks_wd s t ht

/-! ### The kinds of words -/
def nameB (s : List UInt8) : Bool := decide (s ≠ []) && decide (s.length ≤ 40) && (s.take 1).all isLt && s.all isNm
def defN (w : List UInt8) : Option (List UInt8) := if (w.getLast? = some 58) ∧ nameB w.dropLast = true then some w.dropLast else none
def refN (w : List UInt8) : Option (List UInt8) := if (w.head? = some 38) ∧ nameB w.tail = true then some w.tail else none
def codeB (w : List UInt8) : Bool := decide (w ≠ []) && w.all isIn
theorem code_in {w : List UInt8} (h : codeB w = true) : w ≠ [] ∧ ∀ c ∈ w, isIn c = true := by
  unfold codeB at h
  simp only [Bool.and_eq_true, decide_eq_true_eq, List.all_eq_true] at h
  exact h
theorem code_mk {w : List UInt8} (h0 : w ≠ []) (h : ∀ c ∈ w, isIn c = true) : codeB w = true := by
  unfold codeB
  simp only [Bool.and_eq_true, decide_eq_true_eq, List.all_eq_true]
  exact ⟨h0, h⟩
theorem code_wd {w : List UInt8} (h : codeB w = true) : Wd w := ⟨(code_in h).1, fun c hc => in_tk c ((code_in h).2 c hc)⟩
theorem name_parts {s : List UInt8} (h : nameB s = true) : ∃ c r, s = c :: r ∧ isLt c = true ∧ ∀ d ∈ s, isNm d = true := by
  unfold nameB at h
  simp only [Bool.and_eq_true, decide_eq_true_eq, List.all_eq_true] at h
  obtain ⟨⟨⟨h0, _⟩, h2⟩, h3⟩ := h
  cases s with
  | nil => exact absurd rfl h0
  | cons c r => exact ⟨c, r, rfl, h2 c (by simp), h3⟩
theorem def_some {w n : List UInt8} (h : defN w = some n) : w = n ++ [58] ∧ nameB n = true := by
  unfold defN at h
  split at h
  · rename_i hh
    injection h with h
    subst h
    refine ⟨?_, hh.2⟩
    have hne : w ≠ [] := fun e => by rw [e] at hh; simp at hh
    have := hh.1
    rw [List.getLast?_eq_some_getLast hne] at this
    injection this with this
    conv => lhs; rw [← List.dropLast_concat_getLast hne, this]
  · cases h
theorem def_mk {n : List UInt8} (h : nameB n = true) : defN (n ++ [58]) = some n := by
  unfold defN
  rw [List.dropLast_concat, if_pos ⟨by simp, h⟩]
theorem ref_some {w n : List UInt8} (h : refN w = some n) : w = 38 :: n ∧ nameB n = true := by
  unfold refN at h
  split at h
  · rename_i hh
    injection h with h
    subst h
    refine ⟨?_, hh.2⟩
    cases w with
    | nil => simp at hh
    | cons c r => have := hh.1; simp at this; rw [this]; rfl
  · cases h
theorem ref_mk {n : List UInt8} (h : nameB n = true) : refN (38 :: n) = some n := by
  unfold refN
  rw [if_pos ⟨rfl, h⟩]
  rfl
theorem def_code {w : List UInt8} (h : codeB w = true) : defN w = none := by
  rcases e : defN w with _ | n
  · rfl
  · exfalso
    obtain ⟨rfl, hn⟩ := def_some e
    obtain ⟨c, r, rfl, hc, _⟩ := name_parts hn
    have := (code_in h).2 c (by simp)
    rw [lt_in c hc] at this
    cases this
theorem ref_code {w : List UInt8} (h : codeB w = true) : refN w = none := by
  rcases e : refN w with _ | n
  · rfl
  · exfalso
    obtain ⟨rfl, hn⟩ := ref_some e
    have := (code_in h).2 38 (by simp)
    revert this
    decide
theorem ref_def {w n : List UInt8} (h : defN w = some n) : refN w = none := by
  rcases e : refN w with _ | m
  · rfl
  · exfalso
    obtain ⟨rfl, hn⟩ := def_some h
    obtain ⟨c, r, rfl, hc, _⟩ := name_parts hn
    obtain ⟨e1, _⟩ := ref_some e
    injection e1 with e1 _
    subst e1
    revert hc
    decide

/-! ### The first fault -/
def dfs (ws : List (List UInt8)) : List (List UInt8) := ws.filterMap defN
theorem dfs_app (a b : List (List UInt8)) : dfs (a ++ b) = dfs a ++ dfs b := by unfold dfs; rw [List.filterMap_append]
theorem dfs_one (w : List UInt8) : dfs [w] = (defN w).toList := by
  unfold dfs
  rcases e : defN w with _ | n <;> simp [e]
/-- The number of a word's fault: all names that are defined, those that are defined ahead. -/
def flt (D seen : List (List UInt8)) (w : List UInt8) : Nat :=
  match defN w with
  | some n => if n ∈ seen then 8 else 0
  | none => match refN w with
    | some n => if n ∈ D then 0 else 7
    | none => if codeB w then 0 else 3
def chk (D : List (List UInt8)) : List (List UInt8) → List Tok → Nat × Nat
  | _, [] => (0, 0)
  | seen, t :: r => if flt D seen t.1 = 0 then chk D (seen ++ dfs [t.1]) r else (t.2, flt D seen t.1)
theorem chk_ok {D : List (List UInt8)} : ∀ {l : List Tok} {seen}, (chk D seen l).2 = 0 → chk D seen l = (0, 0) := by
  intro l
  induction l with
  | nil => intro seen _; rfl
  | cons t r ih =>
    intro seen h
    rw [chk] at h ⊢
    split at h
    · rename_i h0
      rw [if_pos h0]
      exact ih h
    · rename_i h0
      exact absurd h h0
theorem chk_app {D : List (List UInt8)} : ∀ (a b : List Tok) (seen), chk D seen (a ++ b) = if (chk D seen a).2 = 0 then chk D (seen ++ dfs (wof a)) b else chk D seen a := by
  intro a
  induction a with
  | nil => intro b seen; simp [chk, wof, dfs]
  | cons t r ih =>
    intro b seen
    rw [List.cons_append, chk, chk]
    by_cases h0 : flt D seen t.1 = 0
    · rw [if_pos h0, if_pos h0, ih]
      congr 2
      rw [List.append_assoc, ← dfs_app]
      rfl
    · rw [if_neg h0, if_neg h0, if_neg h0]
/-- All words of a list without a fault. -/
theorem chk_each {D : List (List UInt8)} : ∀ {l : List Tok} {seen}, (chk D seen l).2 = 0 ↔ ∀ k t, l[k]? = some t → flt D (seen ++ dfs (wof (l.take k))) t.1 = 0 := by
  intro l
  induction l with
  | nil => intro seen; simp [chk]
  | cons t r ih =>
    intro seen
    rw [chk]
    by_cases h0 : flt D seen t.1 = 0
    · rw [if_pos h0, ih]
      constructor
      · intro h k u hk
        cases k with
        | zero => simp at hk; subst hk; simpa [wof, dfs] using h0
        | succ k =>
          have := h k u (by simpa using hk)
          rw [List.append_assoc, ← dfs_app] at this
          simpa [wof] using this
      · intro h k u hk
        have := h (k + 1) u (by simpa using hk)
        rw [List.append_assoc, ← dfs_app]
        simpa [wof] using this
    · rw [if_neg h0]
      constructor
      · intro h; exact absurd h h0
      · intro h; exact absurd (by simpa [wof, dfs] using h 0 t (by simp)) h0
theorem chk_code {D : List (List UInt8)} : ∀ {l : List Tok} {seen}, (∀ t ∈ l, codeB t.1 = true) → chk D seen l = (0, 0) := by
  intro l
  induction l with
  | nil => intro seen _; rfl
  | cons t r ih =>
    intro seen h
    have hc := h t (by simp)
    rw [chk, if_pos (by unfold flt; rw [def_code hc, ref_code hc]; simp [hc]), ih fun u hu => h u (by simp [hu])]

/-! ### The text -/
def endsD (t : List UInt8) : Bool := match t.getLast? with | some c => isDg c | none => false
def begD (t : List UInt8) : Bool := match t.head? with | some c => isDg c | none => false
def addT (t a : List UInt8) : List UInt8 := if endsD t && begD a then t ++ 32 :: a else t ++ a
def sixL (n : Nat) : List UInt8 := [n / 100000 % 10, n / 10000 % 10, n / 1000 % 10, n / 100 % 10, n / 10 % 10, n % 10].map fun d => UInt8.ofNat (48 + d)
theorem six_len (n : Nat) : (sixL n).length = 6 := rfl
theorem dg_of (d : Nat) (h : d < 10) : isDg (UInt8.ofNat (48 + d)) = true := by
  have : ∀ e : Fin 10, isDg (UInt8.ofNat (48 + e.1)) = true := by decide
  exact this ⟨d, h⟩
theorem six_dg (n : Nat) : ∀ c ∈ sixL n, isDg c = true := by
  intro c hc
  obtain ⟨d, hd, rfl⟩ := List.mem_map.1 hc
  apply dg_of
  simp only [List.mem_cons, List.not_mem_nil, or_false] at hd
  rcases hd with rfl | rfl | rfl | rfl | rfl | rfl <;> exact Nat.mod_lt _ (by decide)
/-- What a word adds, where the labels have the addresses A. -/
def stp (A : List UInt8 → Nat) (t w : List UInt8) : List UInt8 :=
  match defN w with
  | some _ => t
  | none => match refN w with
    | some n => addT t (sixL (A n))
    | none => addT t w
def bld (A : List UInt8 → Nat) : List UInt8 → List (List UInt8) → List UInt8
  | t, [] => t
  | t, w :: r => bld A (stp A t w) r
def lbs (A : List UInt8 → Nat) (o : Int) : List UInt8 → List (List UInt8) → List (List UInt8 × Int)
  | _, [] => []
  | t, w :: r => (match defN w with | some n => [(n, o + t.length)] | none => []) ++ lbs A o (stp A t w) r
theorem bld_app (A : List UInt8 → Nat) : ∀ (a b : List (List UInt8)) (t), bld A t (a ++ b) = bld A (bld A t a) b := by
  intro a
  induction a with
  | nil => intro b t; rfl
  | cons w r ih => intro b t; rw [List.cons_append, bld, bld, ih]
theorem lbs_app (A : List UInt8 → Nat) (o : Int) : ∀ (a b : List (List UInt8)) (t), lbs A o t (a ++ b) = lbs A o t a ++ lbs A o (bld A t a) b := by
  intro a
  induction a with
  | nil => intro b t; rfl
  | cons w r ih => intro b t; rw [List.cons_append, lbs, lbs, ih, bld, List.append_assoc]
theorem lbs_names (A : List UInt8 → Nat) (o : Int) : ∀ (a : List (List UInt8)) (t), (lbs A o t a).map (·.1) = dfs a := by
  intro a
  induction a with
  | nil => intro t; rfl
  | cons w r ih =>
    intro t
    rw [lbs, List.map_append, ih, show w :: r = [w] ++ r from rfl, dfs_app, dfs_one]
    rcases e : defN w with _ | n <;> simp [e]
theorem addT_len (t a : List UInt8) : t.length ≤ (addT t a).length := by unfold addT; split <;> simp
theorem addT_pre (t a : List UInt8) : ∃ m, addT t a = t ++ m := by
  unfold addT
  split
  · exact ⟨_, rfl⟩
  · exact ⟨_, rfl⟩
theorem stp_pre (A : List UInt8 → Nat) (t w : List UInt8) : ∃ m, stp A t w = t ++ m := by
  unfold stp
  split
  · exact ⟨[], by simp⟩
  · split
    · exact addT_pre _ _
    · exact addT_pre _ _
theorem bld_pre (A : List UInt8 → Nat) : ∀ (l : List (List UInt8)) (t : List UInt8), ∃ m, bld A t l = t ++ m := by
  intro l
  induction l with
  | nil => intro t; exact ⟨[], by simp [bld]⟩
  | cons w r ih =>
    intro t
    obtain ⟨m, hm⟩ := stp_pre A t w
    obtain ⟨k, hk⟩ := ih (stp A t w)
    exact ⟨m ++ k, by rw [bld, hk, hm, List.append_assoc]⟩
theorem bld_len (A : List UInt8 → Nat) (l : List (List UInt8)) (t : List UInt8) : t.length ≤ (bld A t l).length := by
  obtain ⟨m, hm⟩ := bld_pre A l t
  rw [hm]; simp

/-! ### Texts that differ at digits alone -/
def dl : List UInt8 → List UInt8 → Bool
  | [], [] => true
  | c :: r, d :: s => (c == d || isDg c && isDg d) && dl r s
  | _, _ => false
theorem dl_refl : ∀ t, dl t t = true := by
  intro t
  induction t with
  | nil => rfl
  | cons c r ih => rw [dl, ih]; simp
theorem dl_len : ∀ {t u}, dl t u = true → t.length = u.length := by
  intro t
  induction t with
  | nil => intro u h; cases u with | nil => rfl | cons c r => cases h
  | cons c r ih =>
    intro u h
    cases u with
    | nil => cases h
    | cons d s => rw [dl, Bool.and_eq_true] at h; simp [ih h.2]
theorem dl_app : ∀ {t u a b}, dl t u = true → dl a b = true → dl (t ++ a) (u ++ b) = true := by
  intro t
  induction t with
  | nil => intro u a b h k; cases u with | nil => exact k | cons c r => cases h
  | cons c r ih =>
    intro u a b h k
    cases u with
    | nil => cases h
    | cons d s => rw [dl, Bool.and_eq_true] at h; rw [List.cons_append, List.cons_append, dl, h.1, ih h.2 k]; rfl
theorem dl_at : ∀ {t u} (i : Nat) {c d}, dl t u = true → t[i]? = some c → u[i]? = some d → c = d ∨ (isDg c = true ∧ isDg d = true) := by
  intro t
  induction t with
  | nil => intro u i c d h hc; simp at hc
  | cons c r ih =>
    intro u i x y h hc hd
    cases u with
    | nil => cases h
    | cons d s =>
      rw [dl, Bool.and_eq_true] at h
      cases i with
      | zero =>
        simp at hc hd
        subst hc hd
        have := h.1
        simpa using this
      | succ i => exact ih i h.2 (by simpa using hc) (by simpa using hd)
theorem dl_dg : ∀ {a b : List UInt8}, a.length = b.length → (∀ c ∈ a, isDg c = true) → (∀ c ∈ b, isDg c = true) → dl a b = true := by
  intro a
  induction a with
  | nil => intro b h _ _; cases b with | nil => rfl | cons c r => cases h
  | cons c r ih =>
    intro b h ha hb
    cases b with
    | nil => cases h
    | cons d s =>
      rw [dl, ih (by simpa using h) (fun x hx => ha x (by simp [hx])) (fun x hx => hb x (by simp [hx])), ha c (by simp), hb d (by simp)]
      simp
theorem isDg_ends {t u : List UInt8} (h : dl t u = true) : endsD t = endsD u := by
  have hl := dl_len h
  unfold endsD
  rw [List.getLast?_eq_getElem?, List.getLast?_eq_getElem?, ← hl]
  rcases e : t[t.length - 1]? with _ | c
  · have : u[t.length - 1]? = none := by
      rw [List.getElem?_eq_none_iff] at e ⊢
      omega
    rw [this]
  · have hlt := (List.getElem?_eq_some_iff.1 e).1
    have e2 : u[t.length - 1]? = some (u[t.length - 1]'(by omega)) := List.getElem?_eq_getElem _
    rw [e2]
    rcases dl_at _ h e e2 with h | ⟨h1, h2⟩
    · rw [h]
    · dsimp only; rw [h1, h2]
theorem isDg_begs {t u : List UInt8} (h : dl t u = true) : begD t = begD u := by
  unfold begD
  cases t with
  | nil => cases u with | nil => rfl | cons c r => cases h
  | cons c r =>
    cases u with
    | nil => cases h
    | cons d s =>
      rw [dl, Bool.and_eq_true] at h
      have := h.1
      simp only [Bool.or_eq_true, beq_iff_eq, Bool.and_eq_true] at this
      simp only [List.head?_cons]
      rcases this with rfl | ⟨h1, h2⟩
      · rfl
      · rw [h1, h2]
theorem dl_add {t u a b : List UInt8} (h : dl t u = true) (k : dl a b = true) : dl (addT t a) (addT u b) = true := by
  unfold addT
  rw [isDg_ends h, isDg_begs k]
  split
  · exact dl_app h (by rw [dl, k]; simp)
  · exact dl_app h k
theorem dl_stp (A B : List UInt8 → Nat) {t u : List UInt8} (w : List UInt8) (h : dl t u = true) : dl (stp A t w) (stp B u w) = true := by
  unfold stp
  split
  · exact h
  · split
    · exact dl_add h (dl_dg rfl (six_dg _) (six_dg _))
    · exact dl_add h (dl_refl w)
theorem dl_bld (A B : List UInt8 → Nat) : ∀ (l : List (List UInt8)) {t u : List UInt8}, dl t u = true → dl (bld A t l) (bld B u l) = true := by
  intro l
  induction l with
  | nil => intro t u h; exact h
  | cons w r ih => intro t u h; exact ih (dl_stp A B w h)
theorem lbs_dl (A B : List UInt8 → Nat) (o : Int) : ∀ (l : List (List UInt8)) {t u : List UInt8}, dl t u = true → lbs A o t l = lbs B o u l := by
  intro l
  induction l with
  | nil => intro t u h; rfl
  | cons w r ih =>
    intro t u h
    rw [lbs, lbs, dl_len h, ih (dl_stp A B w h)]
theorem bld_len_eq (A B : List UInt8 → Nat) (l : List (List UInt8)) : (bld A [] l).length = (bld B [] l).length := dl_len (dl_bld A B l rfl)
theorem lbs_eq (A B : List UInt8 → Nat) (o : Int) (l : List (List UInt8)) : lbs A o [] l = lbs B o [] l := lbs_dl A B o l rfl

/-! ### The whole -/
def look (L : List (List UInt8 × Int)) (n : List UInt8) : Int := match L.find? (fun p => p.1 == n) with | some p => p.2 | none => 0
def adr (L : List (List UInt8 × Int)) (n : List UInt8) : Nat := (look L n).toNat
def nul (_ : List UInt8) : Nat := 0
structure Asm where
  text : List UInt8
  labs : List (List UInt8 × Int)
  line : Nat
  err : Nat
def asmW (ts : List Tok) (o : Int) : Asm :=
  if (chk (dfs (wof ts)) [] ts).2 ≠ 0 then ⟨[], [], (chk (dfs (wof ts)) [] ts).1, (chk (dfs (wof ts)) [] ts).2⟩
  else if 40000 < (bld nul [] (wof ts)).length then ⟨[], [], 0, 6⟩
  else ⟨bld (adr (lbs nul o [] (wof ts))) [] (wof ts), lbs nul o [] (wof ts), 0, 0⟩
def asm (s : List UInt8) (o : Int) : Asm := if o < 0 ∨ 262144 ≤ o then ⟨[], [], 0, 2⟩ else asmW (toks s) o
end Go.Proofs.YtpnnkdgoaeibbaaDoor.A18
