/- What the laws of layer 19 ask of the plain lexer. No program is named here. -/
import Derived.Test.YtpnnkdgoaeibbaaDoorL19Math
namespace Go.Proofs.YtpnnkdgoaeibbaaDoor.L19
open Mem
set_option linter.unusedVariables false
set_option linter.unusedSimpArgs false

/-! ### Decimal numerals -/
abbrev dec := Lib.decDigits
theorem dec_small (n : Nat) (h : n < 10) : dec n = [UInt8.ofNat (48 + n)] := by unfold dec; rw [Lib.decDigits, dif_pos h]
theorem dec_step (n : Nat) (h : 10 ≤ n) : dec n = dec (n / 10) ++ [UInt8.ofNat (48 + n % 10)] := by unfold dec; rw [Lib.decDigits, dif_neg (by omega)]
theorem dig_val (d : Nat) (h : d < 10) : isDg (UInt8.ofNat (48 + d)) = true ∧ (UInt8.ofNat (48 + d)).toNat - 48 = d := by
  have : ∀ d, d < 10 → isDg (UInt8.ofNat (48 + d)) = true ∧ (UInt8.ofNat (48 + d)).toNat - 48 = d := by decide +kernel
  exact this d h
theorem dec_dg (n : Nat) : ∀ c ∈ dec n, isDg c = true := by
  induction n using Nat.strongRecOn with
  | ind n ih =>
    intro c hc
    by_cases h : n < 10
    · rw [dec_small n h, List.mem_singleton] at hc
      subst hc
      exact (dig_val n h).1
    · rw [dec_step n (by omega), List.mem_append, List.mem_singleton] at hc
      rcases hc with hc | rfl
      · exact ih (n / 10) (by omega) c hc
      · exact (dig_val (n % 10) (by omega)).1
theorem nval_snoc (l : List UInt8) (c : UInt8) : nval (l ++ [c]) = 10 * nval l + (c.toNat - 48) := by
  unfold nval; rw [List.foldl_append]; rfl
theorem nval_dec (n : Nat) : nval (dec n) = n := by
  induction n using Nat.strongRecOn with
  | ind n ih =>
    by_cases h : n < 10
    · rw [dec_small n h]
      show 10 * 0 + _ = n
      rw [(dig_val n h).2]; omega
    · rw [dec_step n (by omega), nval_snoc, ih (n / 10) (by omega), (dig_val (n % 10) (by omega)).2]
      omega
theorem dec_ne (n : Nat) : dec n ≠ [] := by
  by_cases h : n < 10
  · rw [dec_small n h]; simp
  · rw [dec_step n (by omega)]; simp
theorem dec_head (n : Nat) (h : 0 < n) : (dec n).head? ≠ some 48 := by
  induction n using Nat.strongRecOn with
  | ind n ih =>
    by_cases h1 : n < 10
    · rw [dec_small n h1]
      have : ∀ d, d < 10 → 0 < d → UInt8.ofNat (48 + d) ≠ 48 := by decide +kernel
      simpa using this n h1 h
    · rw [dec_step n (by omega)]
      have h2 := ih (n / 10) (by omega) (by omega)
      have h3 := dec_ne (n / 10)
      cases h4 : dec (n / 10) with
      | nil => exact absurd h4 h3
      | cons c r => rw [h4] at h2; simpa using h2
/-- Zeros ahead are dropped. -/
theorem drop_zeros : ∀ (z : Nat) (l : List UInt8), (List.replicate z 48 ++ l).dropWhile (· == 48) = l.dropWhile (· == 48)
  | 0, l => rfl
  | z + 1, l => by
    rw [List.replicate_succ, List.cons_append, List.dropWhile_cons_of_pos (by rfl), drop_zeros z l]
theorem drop_head {l : List UInt8} (h : l.head? ≠ some 48) : l.dropWhile (· == 48) = l := by
  cases l with
  | nil => rfl
  | cons c r => rw [List.dropWhile_cons_of_neg (by simpa using h)]
theorem val0_dec (z n : Nat) : val0 (List.replicate z 48 ++ dec n) = dec n := by
  unfold val0
  rw [drop_zeros]
  by_cases h : n = 0
  · subst h
    rw [dec_small 0 (by decide)]
    rfl
  · rw [drop_head (dec_head n (by omega)), if_neg (dec_ne n)]
theorem zero_dg (z : Nat) : ∀ c ∈ List.replicate z (48 : UInt8), isDg c = true := by
  intro c hc
  rw [(List.mem_replicate.1 hc).2]
  rfl
theorem val0_good {l : List UInt8} (hl : ∀ c ∈ l, isDg c = true) : (∀ c ∈ val0 l, isDg c = true) ∧ val0 l ≠ [] ∧ ((val0 l).head? = some 48 → val0 l = [48]) := by
  unfold val0
  split
  · exact ⟨by intro c hc; rw [List.mem_singleton.1 hc]; rfl, by simp, fun _ => rfl⟩
  · rename_i h
    refine ⟨fun c hc => hl c ((List.dropWhile_sublist _).subset hc), h, fun h2 => ?_⟩
    have := while_head (p := fun x => x == 48) (l := l) 48 (by rw [h2]; rfl)
    simp at this
theorem val0_self {l : List UInt8} (h1 : l ≠ []) (h2 : l.head? = some 48 → l = [48]) : val0 l = l := by
  unfold val0
  by_cases h : l.head? = some 48
  · rw [h2 h]; rfl
  · rw [drop_head h, if_neg h1]
theorem dg_al {c : UInt8} (h : isDg c = true) : isLt c = false ∧ isBl c = false ∧ (c == 39) = false ∧ (c == 47) = false ∧ isNm c = true :=
  ⟨not8 (P := isDg) (Q := isLt) (by decide +kernel) h, not8 (P := isDg) (Q := isBl) (by decide +kernel) h, not8 (P := isDg) (Q := fun c => c == 39) (by decide +kernel) h, not8 (P := isDg) (Q := fun c => c == 47) (by decide +kernel) h, imp8 (P := isDg) (Q := isNm) (by decide +kernel) h⟩
theorem lt_al {c : UInt8} (h : isLt c = true) : isDg c = false ∧ isBl c = false ∧ (c == 39) = false ∧ (c == 47) = false ∧ isNm c = true :=
  ⟨not8 (P := isLt) (Q := isDg) (by decide +kernel) h, not8 (P := isLt) (Q := isBl) (by decide +kernel) h, not8 (P := isLt) (Q := fun c => c == 39) (by decide +kernel) h, not8 (P := isLt) (Q := fun c => c == 47) (by decide +kernel) h, imp8 (P := isLt) (Q := isNm) (by decide +kernel) h⟩
theorem sta_of {c : UInt8} {r : List UInt8} (h : isBl c = false) (h2 : ¬ (c = 47 ∧ r.head? = some 47)) : Sta c r := by
  unfold isBl at h
  simp only [Bool.or_eq_false_iff, beq_eq_false_iff_ne] at h
  exact ⟨h.2, h.1.1, h.1.2, h2⟩

/-! ### The form of a token -/
inductive Tk1 : Nat → List UInt8 → Prop
  | num (v : List UInt8) : (∀ c ∈ v, isDg c = true) → v ≠ [] → (v.head? = some 48 → v = [48]) → nval v ≤ 4294967295 → Tk1 1 v
  | wrd (c : UInt8) (r : List UInt8) : isLt c = true → (∀ d ∈ c :: r, isNm d = true) → (c :: r).length ≤ 24 → Tk1 (wkind (c :: r)) (c :: r)
  | one (c : UInt8) : ones.contains c = true → Tk1 4 [c]
  | two (c d : UInt8) : two.contains [c, d] = true → Tk1 4 [c, d]
theorem sgl_cases (c : UInt8) (r : List UInt8) : (∃ d r', r = d :: r' ∧ two.contains [c, d] = true ∧ sgl (c :: r) = 2) ∨ (ones.contains c = true ∧ sgl (c :: r) = 1) ∨ sgl (c :: r) = 0 := by
  unfold sgl
  split
  · rename_i h
    cases r with
    | nil =>
      exfalso
      have : ∀ x ∈ two, x.length = 2 := by decide
      have := this ([c].take 2) (by simpa using h)
      simp at this
    | cons d r' => exact .inl ⟨d, r', rfl, by simpa using h, rfl⟩
  · split
    · rename_i h
      exact .inr (.inl ⟨by simpa using h, rfl⟩)
    · exact .inr (.inr rfl)
theorem no_ten_of {p : UInt8 → Bool} (hp : p 10 = false) {l : List UInt8} (h : ∀ c ∈ l, p c = true) : l.count 10 = 0 := by
  rw [List.count_eq_zero]
  intro hm
  rw [h _ hm] at hp
  cases hp
theorem fst_form {l : List UInt8} (h : (fst l).e = 0) : Tk1 (fst l).k (fst l).T ∧ (l.take (fst l).m).count 10 = 0 := by
  cases l with
  | nil => simp [fst, bad] at h
  | cons c r =>
    unfold fst at h ⊢
    dsimp only at h ⊢
    by_cases h1 : isDg c = true
    · rw [if_pos h1] at h ⊢
      unfold num at h ⊢
      split at h
      · simp [bad] at h
      · rename_i hA
        rw [if_neg hA]
        split at h
        · simp [bad] at h
        · rename_i hB
          rw [if_neg hB]
          have hd : ∀ d ∈ (c :: r).take (pre isDg (c :: r)), isDg d = true := by rw [take_pre]; exact while_mem
          obtain ⟨g1, g2, g3⟩ := val0_good hd
          exact ⟨.num _ g1 g2 g3 (Nat.le_of_not_lt hB), no_ten_of (p := isDg) (by decide) hd⟩
    rw [if_neg h1] at h ⊢
    by_cases h2 : isLt c = true
    · rw [if_pos h2] at h ⊢
      unfold wrd at h ⊢
      split at h
      · simp [bad] at h
      · rename_i hA
        rw [if_neg hA]
        have hd : ∀ d ∈ (c :: r).take (pre isNm (c :: r)), isNm d = true := by rw [take_pre]; exact while_mem
        refine ⟨?_, no_ten_of (p := isNm) (by decide) hd⟩
        show Tk1 (wkind ((c :: r).take (pre isNm (c :: r)))) ((c :: r).take (pre isNm (c :: r)))
        have hp := pre_pos (p := isNm) (c := c) (r := r) (lt_al h2).2.2.2.2
        obtain ⟨q, hq⟩ : ∃ q, pre isNm (c :: r) = q + 1 := ⟨pre isNm (c :: r) - 1, by omega⟩
        rw [hq] at hd hA ⊢
        rw [List.take_succ_cons] at hd ⊢
        exact .wrd _ _ h2 hd (by rw [List.length_cons, List.length_take]; omega)
    rw [if_neg h2] at h ⊢
    by_cases h3 : (c == 39) = true
    · rw [if_pos h3] at h ⊢
      match r, h with
      | [], h => simp [chr, bad] at h
      | [_], h => simp [chr, bad] at h
      | x :: y :: z, h =>
        unfold chr at h ⊢
        dsimp only at h ⊢
        split at h
        · rename_i hA
          rw [if_pos hA]
          simp only [Bool.and_eq_true, beq_iff_eq] at h3 hA
          obtain ⟨hA, rfl⟩ := hA
          subst h3
          refine ⟨.num _ (dec_dg _) (dec_ne _) (fun e => absurd e (dec_head _ ?_)) (by show nval (dec x.toNat) ≤ _; rw [nval_dec]; have := x.toNat_lt; omega), ?_⟩
          · simp [isQt] at hA; omega
          · show List.count 10 [39, x, 39] = 0
            have : isLn x = true := imp8 (P := isQt) (Q := isLn) (by decide +kernel) hA
            have : x ≠ 10 := by simpa [isLn] using this
            rw [List.count_cons_of_ne (by decide), List.count_cons_of_ne this, List.count_cons_of_ne (by decide)]
            rfl
        · simp [bad] at h
    · rw [if_neg h3] at h ⊢
      unfold sgn at h ⊢
      rcases sgl_cases c r with ⟨d, r', rfl, hs, e⟩ | ⟨hs, e⟩ | e <;> rw [e] at h ⊢
      · refine ⟨.two c d hs, ?_⟩
        show List.count 10 [c, d] = 0
        have : ∀ x ∈ two, x.count 10 = 0 := by decide
        exact this _ (by simpa using hs)
      · refine ⟨.one c hs, ?_⟩
        show List.count 10 [c] = 0
        have := not8 (P := ones.contains) (Q := fun c => c == 10) (by decide +kernel) hs
        have : c ≠ 10 := by simpa using this
        rw [List.count_cons_of_ne this]
        rfl
      · simp [bad] at h
/-- A token that stands ahead of a space is read back. -/
theorem form_fst {k : Nat} {T : List UInt8} (h : Tk1 k T) (b : List UInt8) : fst (T ++ 32 :: b) = good k T T.length ∧ ∃ c r, T ++ 32 :: b = c :: r ∧ Sta c r := by
  cases h with
  | num _ h1 h2 h3 h4 =>
    obtain ⟨c, r, rfl⟩ : ∃ c r, T = c :: r := by cases T with | nil => exact absurd rfl h2 | cons c r => exact ⟨c, r, rfl⟩
    have hc := h1 c (List.mem_cons_self)
    obtain ⟨a1, a2, a3, a4, a5⟩ := dg_al hc
    refine ⟨?_, c, r ++ 32 :: b, rfl, sta_of a2 (by rintro ⟨rfl, _⟩; simp at a4)⟩
    rw [List.cons_append]
    unfold fst
    dsimp only
    rw [if_pos hc, ← List.cons_append]
    have hp : pre isDg (c :: r ++ 32 :: b) = (c :: r).length := by rw [pre_sep (by decide), pre_all h1]
    unfold num
    rw [hp, List.drop_left' rfl, List.take_left' rfl, val0_self h2 h3]
    rw [if_neg (show ¬ (((32 :: b).head?.map isAl).getD false = true) from by show ¬ (isAl 32 = true); decide), if_neg (by omega)]
  | wrd c r h1 h2 h3 =>
    obtain ⟨a1, a2, a3, a4, a5⟩ := lt_al h1
    refine ⟨?_, c, r ++ 32 :: b, rfl, sta_of a2 (by rintro ⟨rfl, _⟩; simp at a4)⟩
    rw [List.cons_append]
    unfold fst
    dsimp only
    rw [if_neg (by rw [a1]; simp), if_pos h1, ← List.cons_append]
    have hp : pre isNm (c :: r ++ 32 :: b) = (c :: r).length := by rw [pre_sep (by decide), pre_all h2]
    unfold wrd
    rw [hp, List.take_left' rfl, if_neg (by omega)]
  | one c h =>
    refine ⟨?_, c, 32 :: b, rfl, ?_⟩
    · show fst (c :: 32 :: b) = _
      unfold fst
      dsimp only
      have q1 := not8 (P := ones.contains) (Q := isDg) (by decide +kernel) h
      have q2 := not8 (P := ones.contains) (Q := isLt) (by decide +kernel) h
      have q3 := not8 (P := ones.contains) (Q := fun c => c == 39) (by decide +kernel) h
      have q4 : two.contains [c, 32] = false := by
        have := not8 (P := ones.contains) (Q := fun c => two.contains [c, 32]) (by decide +kernel) h
        exact this
      have hs : sgl (c :: 32 :: b) = 1 := by
        unfold sgl
        rw [show (c :: 32 :: b).take 2 = [c, 32] from rfl, q4, if_neg (by simp), if_pos (by simpa using h)]
      rw [q1, q2, if_neg (by simp), if_neg (by simp), q3, if_neg (by simp)]
      unfold sgn
      rw [hs]
      rfl
    · have q := not8 (P := ones.contains) (Q := isBl) (by decide +kernel) h
      exact sta_of q (by rintro ⟨_, h2⟩; simp at h2)
  | two c d h =>
    have hm : [c, d] ∈ L19.two := by simpa using h
    have all : ∀ x ∈ L19.two, ∀ c d, x = [c, d] → isDg c = false ∧ isLt c = false ∧ (c == 39) = false ∧ isBl c = false ∧ (c == 47) = false := by
      intro x hx c d e
      simp [L19.two] at hx
      rcases hx with rfl | rfl | rfl | rfl | rfl | rfl <;> (injection e with e1 e2; subst e1; decide)
    obtain ⟨q1, q2, q3, q4, q5⟩ := all _ hm c d rfl
    refine ⟨?_, c, d :: 32 :: b, rfl, sta_of q4 (by rintro ⟨rfl, _⟩; simp at q5)⟩
    show fst (c :: d :: 32 :: b) = _
    unfold fst
    dsimp only
    have hs : sgl (c :: d :: 32 :: b) = 2 := by
      unfold sgl
      rw [show (c :: d :: 32 :: b).take 2 = [c, d] from rfl, h, if_pos rfl]
    rw [q1, q2, q3, if_neg (by simp), if_neg (by simp), if_neg (by simp)]
    unfold sgn
    rw [hs]
    rfl

/-! ### Kinds and lines (LexerKinds) -/
theorem tk_form (l : List UInt8) : ∀ n, (∀ t ∈ (tk n l).1, Tk1 t.1 t.2.1 ∧ n ≤ t.2.2) ∧ ((tk n l).2.2 ≠ 0 → n ≤ (tk n l).2.1) ∧ (tk n l).1.Pairwise (fun a b => a.2.2 ≤ b.2.2) := by
  induction l using lx_ind with
  | h0 => intro n; exact ⟨by simp [tk_nil], by simp [tk_nil], by simp [tk_nil]⟩
  | h1 r ih => intro n; rw [tk_ten]; obtain ⟨a, b, c⟩ := ih (n + 1); exact ⟨fun t ht => ⟨(a t ht).1, by have := (a t ht).2; omega⟩, fun h => by have := b h; omega, c⟩
  | h2 c r hc ih => intro n; rw [tk_bl _ _ hc]; exact ih n
  | h3 r hr ih => intro n; rw [tk_cm _ _ hr]; exact ih n
  | h4 c r hs he ih =>
    intro n
    rw [tk_tok _ hs he]
    obtain ⟨x, y, z⟩ := ih n
    refine ⟨?_, y, ?_⟩
    · intro t ht
      rcases List.mem_append.1 ht with ht | ht
      · rw [List.mem_singleton.1 ht]
        exact ⟨(fst_form he).1, Nat.le_refl _⟩
      · exact x t ht
    · show List.Pairwise _ ([_] ++ _)
      rw [List.singleton_append, List.pairwise_cons]
      exact ⟨fun t ht => (x t ht).2, z⟩
  | h5 c r hs he => intro n; rw [tk_bad _ hs he]; exact ⟨by simp, fun _ => Nat.le_refl _, by simp⟩

/-! ### What follows a separator (LexerConcatenates, LexerLayout) -/
def Sep (c : UInt8) (b : List UInt8) : Prop := c = 10 ∨ (c = 32 ∧ b.head? ≠ some 39)
theorem fst_sep {c : UInt8} {b : List UInt8} (hc : Sep c b) (x : UInt8) (r : List UInt8) : fst (x :: r ++ c :: b) = fst (x :: r) := by
  have c1 : isDg c = false ∧ isNm c = false ∧ isAl c = false ∧ (c == 39) = false := by
    rcases hc with rfl | ⟨rfl, _⟩ <;> decide
  obtain ⟨d1, d2, d3, d4⟩ := c1
  rw [List.cons_append]
  unfold fst
  dsimp only
  have en : num (x :: (r ++ c :: b)) = num (x :: r) := by
    rw [← List.cons_append]
    unfold num
    rw [pre_sep d1]
    have hle := pre_le isDg (x :: r)
    rw [List.take_append_of_le_length hle, List.drop_append_of_le_length hle]
    have : (((x :: r).drop (pre isDg (x :: r)) ++ c :: b).head?.map isAl).getD false = (((x :: r).drop (pre isDg (x :: r))).head?.map isAl).getD false := by
      cases (x :: r).drop (pre isDg (x :: r)) with
      | nil => simpa using d3
      | cons y z => rfl
    rw [this]
  have ew : wrd (x :: (r ++ c :: b)) = wrd (x :: r) := by
    rw [← List.cons_append]
    unfold wrd
    rw [pre_sep d2, List.take_append_of_le_length (pre_le isNm (x :: r))]
  have ec : chr (x :: (r ++ c :: b)) = chr (x :: r) := by
    match r with
    | [] =>
      rcases hc with rfl | ⟨rfl, h⟩
      · cases b with
        | nil => rfl
        | cons y z => simp [chr, isQt]
      · cases b with
        | nil => rfl
        | cons y z =>
          have : (y == 39) = false := by simpa using h
          simp [chr, this]
    | [y] => simp [chr, d4]
    | y :: z :: w => rfl
  have es : sgn (x :: (r ++ c :: b)) = sgn (x :: r) := by
    have hs : sgl (x :: (r ++ c :: b)) = sgl (x :: r) := by
      match r with
      | [] =>
        unfold sgl
        have : two.contains [x, c] = false := by
          rcases hc with rfl | ⟨rfl, _⟩
          · have := all8 (P := fun x => !two.contains [x, 10]) (by decide +kernel) x
            simpa using this
          · have := all8 (P := fun x => !two.contains [x, 32]) (by decide +kernel) x
            simpa using this
        have h2 : two.contains [x] = false := by simp [two]
        show (if two.contains [x, c] then 2 else _) = (if two.contains [x] then 2 else _)
        rw [this, h2]
        rfl
      | y :: z => rfl
    unfold sgn
    rw [hs]
    rcases sgl_cases x r with ⟨y, z, rfl, _, e⟩ | ⟨_, e⟩ | e <;> rw [e] <;> rfl
  rw [en, ew, ec, es]
theorem tk_sep {c : UInt8} {b : List UInt8} {G : Nat → Res} (hc : Sep c b) (h1 : ∀ n, tk n (c :: b) = G n) (h2 : ∀ n, tk n ((c :: b).dropWhile isLn) = G n) :
    ∀ l n, tk n (l ++ c :: b) = if (tk n l).2.2 = 0 then addL (tk n l).1 (G (n + l.count 10)) else tk n l := by
  intro l
  induction l using lx_ind with
  | h0 => intro n; rw [tk_nil, if_pos rfl, List.nil_append, h1]; rfl
  | h1 r ih =>
    intro n
    rw [List.cons_append, tk_ten, tk_ten, ih, List.count_cons_self, show n + 1 + r.count 10 = n + (r.count 10 + 1) by omega]
  | h2 x r hx ih =>
    intro n
    rw [List.cons_append, tk_bl _ _ hx, tk_bl _ _ hx, ih, List.count_cons_of_ne (by rcases hx with rfl | rfl <;> decide)]
  | h3 r hr ih =>
    intro n
    have hr2 : (r ++ c :: b).head? = some 47 := by cases r with | nil => simp at hr | cons y z => simpa using hr
    rw [List.cons_append, tk_cm _ _ hr2, tk_cm _ _ hr, List.dropWhile_append, List.count_cons_of_ne (by decide)]
    have hcn : r.count 10 = (r.dropWhile isLn).count 10 := by
      conv => lhs; rw [← List.takeWhile_append_dropWhile (p := isLn) (l := r)]
      rw [List.count_append, count_ln, Nat.zero_add]
    rw [hcn]
    split
    · rename_i he
      have he : r.dropWhile isLn = [] := by simpa using he
      rw [he, h2, tk_nil, if_pos rfl]
      rfl
    · exact ih n
  | h4 x r hs he ih =>
    intro n
    have hs2 : Sta x (r ++ c :: b) := ⟨hs.1, hs.2.1, hs.2.2.1, fun ⟨e1, e2⟩ => hs.2.2.2 ⟨e1, by
      cases r with
      | nil => rcases hc with rfl | ⟨rfl, _⟩ <;> simp at e2
      | cons y z => simpa using e2⟩⟩
    have hf := fst_sep hc x r
    rw [List.cons_append] at hf ⊢
    rw [tk_tok n hs2 (by rw [hf]; exact he), tk_tok n hs he, hf, ← List.cons_append, List.drop_append_of_le_length (fst_len he).2, ih]
    have hcn : (x :: r).count 10 = ((x :: r).drop (fst (x :: r)).m).count 10 := by
      conv => lhs; rw [← List.take_append_drop (fst (x :: r)).m (x :: r)]
      rw [List.count_append, (fst_form he).2, Nat.zero_add]
    rw [hcn]
    show addL _ (if (tk n _).2.2 = 0 then _ else _) = if (tk n _).2.2 = 0 then _ else _
    split
    · rw [addL_addL]; rfl
    · rfl
  | h5 x r hs he =>
    intro n
    have hs2 : Sta x (r ++ c :: b) := ⟨hs.1, hs.2.1, hs.2.2.1, fun ⟨e1, e2⟩ => hs.2.2.2 ⟨e1, by
      cases r with
      | nil => rcases hc with rfl | ⟨rfl, _⟩ <;> simp at e2
      | cons y z => simpa using e2⟩⟩
    have hf := fst_sep hc x r
    rw [List.cons_append] at hf ⊢
    rw [tk_bad n hs2 (by rw [hf]; exact he), tk_bad n hs he, hf, if_neg he]
/-- Lines are shifted. -/
def shf (d : Nat) (t : Tok) : Tok := (t.1, t.2.1, t.2.2 + d)
theorem tk_shift (d : Nat) (l : List UInt8) : ∀ n, (tk (n + d) l).1 = (tk n l).1.map (shf d) ∧ (tk (n + d) l).2.2 = (tk n l).2.2 ∧ ((tk n l).2.2 ≠ 0 → (tk (n + d) l).2.1 = (tk n l).2.1 + d) := by
  induction l using lx_ind with
  | h0 => intro n; simp [tk_nil]
  | h1 r ih => intro n; rw [tk_ten, tk_ten, show n + d + 1 = n + 1 + d by omega]; exact ih (n + 1)
  | h2 c r hc ih => intro n; rw [tk_bl _ _ hc, tk_bl _ _ hc]; exact ih n
  | h3 r hr ih => intro n; rw [tk_cm _ _ hr, tk_cm _ _ hr]; exact ih n
  | h4 c r hs he ih =>
    intro n
    rw [tk_tok _ hs he, tk_tok _ hs he]
    obtain ⟨x, y, z⟩ := ih n
    refine ⟨?_, y, z⟩
    show [_] ++ _ = List.map _ ([_] ++ _)
    rw [List.map_append, x]
    rfl
  | h5 c r hs he => intro n; rw [tk_bad _ hs he, tk_bad _ hs he]; simp
theorem concat (a b : List UInt8) (n : Nat) : tk n (a ++ 10 :: b) = if (tk n a).2.2 = 0 then addL (tk n a).1 (tk (n + a.count 10 + 1) b) else tk n a :=
  tk_sep (G := fun n => tk (n + 1) b) (.inl rfl) (fun n => tk_ten n b) (fun n => by rw [List.dropWhile_cons_of_neg (by decide), tk_ten]) a n
/-- " // the end" -/
def tailC : List UInt8 := [32, 47, 47, 32, 116, 104, 101, 32, 101, 110, 100]
theorem behind (l : List UInt8) (n : Nat) : tk n (l ++ tailC) = if (tk n l).2.2 = 0 then ((tk n l).1, 0, 0) else tk n l := by
  have := tk_sep (c := 32) (b := [47, 47, 32, 116, 104, 101, 32, 101, 110, 100]) (G := fun _ => ([], 0, 0)) (.inr ⟨rfl, by decide⟩) (fun n => rfl) (fun n => rfl) l n
  rw [show l ++ tailC = l ++ 32 :: [47, 47, 32, 116, 104, 101, 32, 101, 110, 100] from rfl, this]
  unfold addL
  rw [List.append_nil]
theorem tk_line (l : List UInt8) : ∀ n, (tk n l).2.2 = 0 → (tk n l).2.1 = 0 := by
  induction l using lx_ind with
  | h0 => intro n _; rfl
  | h1 r ih => intro n; rw [tk_ten]; exact ih (n + 1)
  | h2 c r hc ih => intro n; rw [tk_bl _ _ hc]; exact ih n
  | h3 r hr ih => intro n; rw [tk_cm _ _ hr]; exact ih n
  | h4 c r hs he ih => intro n; rw [tk_tok _ hs he]; exact ih n
  | h5 c r hs he => intro n; rw [tk_bad _ hs he]; exact fun h => absurd h he
/-- "\t // \" no token '\n \n" -/
def frontC : List UInt8 := [9, 32, 47, 47, 32, 34, 32, 110, 111, 32, 116, 111, 107, 101, 110, 32, 39, 10, 32, 10]
theorem ahead1 (l : List UInt8) (n : Nat) : tk n (frontC ++ l) = tk (n + 2) l := by
  show tk n (9 :: 32 :: 47 :: 47 :: 32 :: 34 :: 32 :: 110 :: 111 :: 32 :: 116 :: 111 :: 107 :: 101 :: 110 :: 32 :: 39 :: 10 :: 32 :: 10 :: l) = _
  rw [tk_bl _ _ (.inr rfl), tk_bl _ _ (.inl rfl), tk_cm _ _ rfl]
  rw [show List.dropWhile isLn (47 :: 32 :: 34 :: 32 :: 110 :: 111 :: 32 :: 116 :: 111 :: 107 :: 101 :: 110 :: 32 :: 39 :: 10 :: 32 :: 10 :: l) = 10 :: 32 :: 10 :: l from rfl]
  rw [tk_ten, tk_bl _ _ (.inl rfl), tk_ten]
def fronts : Nat → List UInt8
  | 0 => []
  | k + 1 => fronts k ++ frontC
theorem ahead (l : List UInt8) : ∀ k n, tk n (fronts k ++ l) = tk (n + 2 * k) l
  | 0, n => rfl
  | k + 1, n => by
    rw [fronts, List.append_assoc, ahead (frontC ++ l) k n, ahead1]
    congr 1
theorem fronts_len : ∀ k, (fronts k).length = 20 * k
  | 0 => rfl
  | k + 1 => by rw [fronts, List.length_append, fronts_len k, show frontC.length = 20 from rfl]; omega
theorem fronts_count : ∀ k, (fronts k).count 10 = 2 * k
  | 0 => rfl
  | k + 1 => by rw [fronts, List.count_append, fronts_count k, show frontC.count 10 = 2 from rfl]; omega

/-! ### The round trip -/
def rt (l : List Tok) : List UInt8 := l.flatMap (fun t => t.2.1 ++ [32])
theorem rt_snoc (l : List Tok) (t : Tok) : rt (l ++ [t]) = rt l ++ t.2.1 ++ [32] := by
  unfold rt; rw [List.flatMap_append]; simp
def flat (t : Tok) : Tok := (t.1, t.2.1, 1)
theorem round : ∀ (l : List Tok), (∀ t ∈ l, Tk1 t.1 t.2.1) → tk 1 (rt l) = (l.map flat, 0, 0) := by
  intro l
  induction l with
  | nil => intro _; rfl
  | cons t l ih =>
    intro h
    obtain ⟨hf, c, r, hcr, hs⟩ := form_fst (h t List.mem_cons_self) (rt l)
    have e : rt (t :: l) = t.2.1 ++ 32 :: rt l := by unfold rt; rw [List.flatMap_cons]; simp
    rw [e]
    have hd : (c :: r).drop t.2.1.length = 32 :: rt l := by rw [← hcr, List.drop_left' rfl]
    rw [hcr] at hf ⊢
    rw [tk_tok _ hs (by rw [hf]; rfl), hf]
    show addL [(t.1, t.2.1, 1)] (tk 1 ((c :: r).drop t.2.1.length)) = _
    rw [hd, tk_bl _ _ (.inl rfl), ih (fun t ht => h t (List.mem_cons_of_mem _ ht))]
    rfl

/-! ### Numbers -/
theorem num_head (z n : Nat) (b : List UInt8) : ∃ c r, List.replicate z 48 ++ dec n ++ b = c :: r ∧ isDg c = true := by
  have hd : ∀ c ∈ List.replicate z 48 ++ dec n, isDg c = true := fun c hc => by
    rcases List.mem_append.1 hc with h | h
    · exact zero_dg z c h
    · exact dec_dg n c h
  cases h : List.replicate z 48 ++ dec n with
  | nil => rw [List.append_eq_nil_iff] at h; exact absurd h.2 (dec_ne n)
  | cons c r => exact ⟨c, r ++ b, rfl, hd c (by rw [h]; exact List.mem_cons_self)⟩
theorem num_fst (z n : Nat) (x : UInt8) (b : List UInt8) (hx : isDg x = false) : fst (List.replicate z 48 ++ dec n ++ x :: b) = if isAl x then bad 3 else if 4294967295 < n then bad 2 else good 1 (dec n) (z + (dec n).length) := by
  have hd : ∀ c ∈ List.replicate z 48 ++ dec n, isDg c = true := fun c hc => by
    rcases List.mem_append.1 hc with h | h
    · exact zero_dg z c h
    · exact dec_dg n c h
  obtain ⟨c, r, hcr, hc⟩ := num_head z n (x :: b)
  have hp : pre isDg (List.replicate z 48 ++ dec n ++ x :: b) = (List.replicate z 48 ++ dec n).length := by rw [pre_sep hx, pre_all hd]
  have hf : fst (List.replicate z 48 ++ dec n ++ x :: b) = num (List.replicate z 48 ++ dec n ++ x :: b) := by
    rw [hcr]; unfold fst; dsimp only; rw [if_pos hc]
  rw [hf]
  unfold num
  rw [hp, List.take_left' rfl, List.drop_left' rfl, val0_dec, nval_dec, List.length_append, List.length_replicate]
  rfl
theorem num_sta (z n : Nat) (b : List UInt8) : ∃ c r, List.replicate z 48 ++ dec n ++ b = c :: r ∧ Sta c r := by
  obtain ⟨c, r, hcr, hc⟩ := num_head z n b
  obtain ⟨a1, a2, a3, a4, a5⟩ := dg_al hc
  exact ⟨c, r, hcr, sta_of a2 (by rintro ⟨rfl, _⟩; simp at a4)⟩
theorem num_line (z n k : Nat) : tk k (List.replicate z 48 ++ dec n ++ [59]) = if 4294967295 < n then ([], k, 2) else ([(1, dec n, k), (4, [59], k)], 0, 0) := by
  obtain ⟨c, r, hcr, hs⟩ := num_sta z n [59]
  have hf := num_fst z n 59 [] (by decide)
  have hlen : (List.replicate z 48 ++ dec n).length = z + (dec n).length := by rw [List.length_append, List.length_replicate]
  have hd : (c :: r).drop (z + (dec n).length) = [59] := by rw [← hcr, ← hlen, List.drop_left' rfl]
  rw [if_neg (show ¬ (isAl 59 = true) by decide)] at hf
  rw [hcr] at hf ⊢
  split
  · rename_i h
    rw [if_pos h] at hf
    rw [tk_bad _ hs (by rw [hf]; decide), hf]
    rfl
  · rename_i h
    rw [if_neg h] at hf
    rw [tk_tok _ hs (by rw [hf]; rfl), hf]
    show addL [(1, dec n, k)] (tk k ((c :: r).drop (z + (dec n).length))) = _
    rw [hd]
    rfl
theorem num_under (z n k : Nat) : tk k (List.replicate z 48 ++ dec n ++ [95]) = ([], k, 3) := by
  obtain ⟨c, r, hcr, hs⟩ := num_sta z n [95]
  have hf := num_fst z n 95 [] (by decide)
  rw [if_pos (show isAl 95 = true by decide)] at hf
  rw [hcr] at hf ⊢
  rw [tk_bad _ hs (by rw [hf]; decide), hf]
  rfl
/-! ### Blanks -/
theorem blank_any : ∀ (k n : Nat), tk n (List.replicate k 32) = ([], 0, 0)
  | 0, n => rfl
  | k + 1, n => by rw [List.replicate_succ, tk_bl _ _ (.inl rfl), blank_any k n]
theorem dec_three (x : UInt8) : (dec x.toNat).length ≤ 3 := by
  have := all8 (P := fun x => decide ((dec x.toNat).length ≤ 3)) (by decide +kernel) x
  simpa using this
theorem fst_size {l : List UInt8} (h : (fst l).e = 0) : (fst l).T.length + 1 ≤ 2 * (fst l).m := by
  have hl := (fst_len h).1
  cases l with
  | nil => simp [fst, bad] at h
  | cons c r =>
    unfold fst at h hl ⊢
    dsimp only at h hl ⊢
    by_cases h1 : isDg c = true
    · rw [if_pos h1] at h hl ⊢
      unfold num at h hl ⊢
      split at h
      · simp [bad] at h
      · rename_i hA
        rw [if_neg hA] at hl ⊢
        split at h
        · simp [bad] at h
        · rename_i hB
          rw [if_neg hB] at hl ⊢
          have hl : 1 ≤ pre isDg (c :: r) := hl
          show (val0 ((c :: r).take (pre isDg (c :: r)))).length + 1 ≤ 2 * pre isDg (c :: r)
          have := drop_while_le (· == 48) ((c :: r).take (pre isDg (c :: r)))
          rw [List.length_take] at this
          unfold val0
          split
          · rw [show ([48] : List UInt8).length = 1 from rfl]; omega
          · omega
    rw [if_neg h1] at h hl ⊢
    by_cases h2 : isLt c = true
    · rw [if_pos h2] at h hl ⊢
      unfold wrd at h hl ⊢
      split at h
      · simp [bad] at h
      · rename_i hA
        rw [if_neg hA] at hl ⊢
        have hl : 1 ≤ pre isNm (c :: r) := hl
        show ((c :: r).take (pre isNm (c :: r))).length + 1 ≤ 2 * pre isNm (c :: r)
        rw [List.length_take]
        omega
    rw [if_neg h2] at h hl ⊢
    by_cases h3 : (c == 39) = true
    · rw [if_pos h3] at h hl ⊢
      match r, h, hl with
      | [], h, hl => simp [chr, bad] at h
      | [_], h, hl => simp [chr, bad] at h
      | x :: y :: z, h, hl =>
        unfold chr at h hl ⊢
        dsimp only at h hl ⊢
        split at h
        · rename_i hA
          rw [if_pos hA]
          have := dec_three x
          show (dec x.toNat).length + 1 ≤ 2 * 3
          omega
        · simp [bad] at h
    · rw [if_neg h3] at h hl ⊢
      unfold sgn at h hl ⊢
      split at h
      · simp [bad] at h
      · rename_i hA
        rw [if_neg hA] at hl ⊢
        have hl : 1 ≤ sgl (c :: r) := hl
        show ((c :: r).take (sgl (c :: r))).length + 1 ≤ 2 * sgl (c :: r)
        rw [List.length_take]
        omega
theorem rt_cons (t : Tok) (l : List Tok) : (rt (t :: l)).length = t.2.1.length + 1 + (rt l).length := by
  unfold rt; rw [List.flatMap_cons]; simp; omega
theorem tk_bound (l : List UInt8) : ∀ n, (tk n l).1.length ≤ l.length ∧ (tk n l).2.1 ≤ n + l.length ∧ (∀ t ∈ (tk n l).1, t.2.2 ≤ n + l.length) ∧ (rt (tk n l).1).length ≤ 2 * l.length := by
  induction l using lx_ind with
  | h0 => intro n; rw [tk_nil]; exact ⟨by simp, by simp, by simp, by simp [rt]⟩
  | h1 r ih =>
    intro n
    rw [tk_ten, List.length_cons]
    obtain ⟨a, b, c, d⟩ := ih (n + 1)
    exact ⟨by omega, by omega, fun t ht => by have := c t ht; omega, by omega⟩
  | h2 x r hx ih =>
    intro n
    rw [tk_bl _ _ hx, List.length_cons]
    obtain ⟨a, b, c, d⟩ := ih n
    exact ⟨by omega, by omega, fun t ht => by have := c t ht; omega, by omega⟩
  | h3 r hr ih =>
    intro n
    rw [tk_cm _ _ hr, List.length_cons]
    obtain ⟨a, b, c, d⟩ := ih n
    have := drop_while_le isLn r
    exact ⟨by omega, by omega, fun t ht => by have := c t ht; omega, by omega⟩
  | h4 x r hs he ih =>
    intro n
    rw [tk_tok _ hs he]
    obtain ⟨a, b, c, d⟩ := ih n
    have e1 := fst_len he
    have e2 := fst_size he
    rw [List.length_drop] at a b c d
    have e3 : (addL [((fst (x :: r)).k, (fst (x :: r)).T, n)] (tk n ((x :: r).drop (fst (x :: r)).m))).1 = ((fst (x :: r)).k, (fst (x :: r)).T, n) :: (tk n ((x :: r).drop (fst (x :: r)).m)).1 := rfl
    have e4 : (addL [((fst (x :: r)).k, (fst (x :: r)).T, n)] (tk n ((x :: r).drop (fst (x :: r)).m))).2 = (tk n ((x :: r).drop (fst (x :: r)).m)).2 := rfl
    rw [e3, e4]
    refine ⟨by rw [List.length_cons]; omega, by omega, ?_, ?_⟩
    · intro t ht
      rcases List.mem_cons.1 ht with rfl | ht
      · show n ≤ _; omega
      · have := c t ht; omega
    · rw [rt_cons]
      show (fst (x :: r)).T.length + 1 + _ ≤ _
      omega
  | h5 c r hs he => intro n; rw [tk_bad _ hs he]; exact ⟨by simp, by simp, by simp, by simp [rt]⟩
/-! ### What Tokens hands back -/
theorem ans_eq {s : List UInt8} (h : s.length ≤ 60000) : ans s = if (tk 1 s).2.2 = 0 then ((tk 1 s).1, 0, 0) else ([], (tk 1 s).2) := by
  unfold ans; rw [if_neg (by omega)]
theorem ans_ok {s : List UInt8} (h : (ans s).2.2 = 0) : s.length ≤ 60000 ∧ (tk 1 s).2.2 = 0 ∧ ans s = ((tk 1 s).1, 0, 0) := by
  unfold ans at h ⊢
  split at h
  · simp at h
  · rename_i h1
    split at h
    · rename_i h2
      rw [if_neg h1, if_pos h2]
      exact ⟨by omega, h2, rfl⟩
    · rename_i h2
      exact absurd h h2
theorem ans_bad {s : List UInt8} (h : (ans s).2.2 ≠ 0) : (ans s).1 = [] ∧ ((ans s).2.2 ≠ 6 → 1 ≤ (ans s).2.1) := by
  unfold ans at h ⊢
  split
  · simp
  · split
    · rename_i h2; rw [if_neg (by assumption), if_pos h2] at h; simp at h
    · rename_i h2
      refine ⟨rfl, fun _ => ?_⟩
      exact (tk_form s 1).2.1 h2
theorem ans_bound (s : List UInt8) : (ans s).1.length ≤ 60000 ∧ (ans s).2.1 ≤ 60001 ∧ (ans s).1.length ≤ s.length ∧ (∀ t ∈ (ans s).1, t.2.2 ≤ 60001 ∧ t.2.2 ≤ 1 + s.length) ∧ (rt (ans s).1).length ≤ 2 * s.length := by
  obtain ⟨a, b, c, d⟩ := tk_bound s 1
  unfold ans
  split
  · simp [rt]
  · split
    · exact ⟨by show (tk 1 s).1.length ≤ _; omega, by simp, a, fun t ht => by have := c t ht; omega, d⟩
    · exact ⟨by simp, by show (tk 1 s).2.1 ≤ _; omega, by simp, by simp, by simp [rt]⟩
theorem concat_ans {a b : List UInt8} (ha : a.length ≤ 1000) (hb : b.length ≤ 1000) {ta tb : List Tok} {na ea nb eb : Nat} (h1 : ans a = (ta, na, ea)) (h2 : ans b = (tb, nb, eb)) :
    (ea ≠ 0 → ta = [] ∧ ans (a ++ 10 :: b) = ([], na, ea)) ∧ (ea = 0 → eb ≠ 0 → tb = [] ∧ ans (a ++ 10 :: b) = ([], nb + (a.count 10 + 1), eb)) ∧ (ea = 0 → eb = 0 → ans (a ++ 10 :: b) = (ta ++ tb.map (shf (a.count 10 + 1)), 0, 0)) := by
  have hj := concat a b 1
  rw [ans_eq (by omega)] at h1 h2
  rw [ans_eq (by rw [List.length_append, List.length_cons]; omega), hj]
  obtain ⟨s1, s2, s3⟩ := tk_shift (a.count 10 + 1) b 1
  rw [show 1 + (a.count 10 + 1) = 1 + a.count 10 + 1 by omega] at s1 s2 s3
  by_cases e1 : (tk 1 a).2.2 = 0
  · rw [if_pos e1] at h1
    rw [if_pos e1]
    injection h1 with h1 h1'
    injection h1' with h3 h4
    refine ⟨fun h => absurd h4.symm h, fun _ hb2 => ?_, fun _ hb2 => ?_⟩
    · by_cases e2 : (tk 1 b).2.2 = 0
      · rw [if_pos e2] at h2
        injection h2 with h2 h2'
        injection h2' with _ h5
        exact absurd h5.symm hb2
      · rw [if_neg e2] at h2
        injection h2 with h2 h2'
        have h5 : (tk 1 b).2.1 = nb := by rw [h2']
        have h6 : (tk 1 b).2.2 = eb := by rw [h2']
        refine ⟨h2.symm, ?_⟩
        show (if (tk (1 + a.count 10 + 1) b).2.2 = 0 then _ else (([], (tk (1 + a.count 10 + 1) b).2) : Res)) = _
        rw [if_neg (by rw [s2]; exact e2), ← h5, ← h6, ← s3 e2, ← s2]
    · by_cases e2 : (tk 1 b).2.2 = 0
      · rw [if_pos e2] at h2
        injection h2 with h2 h2'
        show (if (tk (1 + a.count 10 + 1) b).2.2 = 0 then (((tk 1 a).1 ++ (tk (1 + a.count 10 + 1) b).1, 0, 0) : Res) else _) = _
        rw [if_pos (by rw [s2]; exact e2), s1, h1, h2]
      · rw [if_neg e2] at h2
        injection h2 with h2 h2'
        have h6 : (tk 1 b).2.2 = eb := by rw [h2']
        exact absurd (h6.trans hb2) e2
  · rw [if_neg e1] at h1
    rw [if_neg e1, if_neg e1]
    injection h1 with h1 h1'
    have h6 : (tk 1 a).2.2 = ea := by rw [h1']
    exact ⟨fun _ => ⟨h1.symm, by rw [h1']⟩, fun h => absurd (h6.trans h) e1, fun h => absurd (h6.trans h) e1⟩
theorem layout_ans {s : List UInt8} (hs : s.length ≤ 1000) {k : Nat} (hk : k ≤ 4) {ts : List Tok} {n e : Nat} (h : ans s = (ts, n, e)) :
    (e ≠ 0 → ts = [] ∧ ans (fronts k ++ s ++ tailC) = ([], n + 2 * k, e)) ∧ (e = 0 → ans (fronts k ++ s ++ tailC) = (ts.map (shf (2 * k)), 0, 0)) := by
  rw [ans_eq (by omega)] at h
  have hl : (fronts k ++ s ++ tailC).length ≤ 60000 := by
    rw [List.length_append, List.length_append, fronts_len, show tailC.length = 11 from rfl]; omega
  rw [ans_eq hl, List.append_assoc, ahead, behind]
  obtain ⟨s1, s2, s3⟩ := tk_shift (2 * k) s 1
  by_cases e1 : (tk 1 s).2.2 = 0
  · rw [if_pos e1] at h
    have e2 : (tk (1 + 2 * k) s).2.2 = 0 := by rw [s2]; exact e1
    rw [if_pos e2]
    injection h with h h'
    injection h' with h3 h4
    refine ⟨fun h5 => absurd h4.symm h5, fun _ => ?_⟩
    show (if (0 : Nat) = 0 then (((tk (1 + 2 * k) s).1, 0, 0) : Res) else _) = _
    rw [if_pos rfl, s1, h]
  · rw [if_neg e1] at h
    have e2 : (tk (1 + 2 * k) s).2.2 ≠ 0 := by rw [s2]; exact e1
    rw [if_neg e2, if_neg e2]
    injection h with h h'
    have h5 : (tk 1 s).2.1 = n := by rw [h']
    have h6 : (tk 1 s).2.2 = e := by rw [h']
    refine ⟨fun _ => ⟨h.symm, ?_⟩, fun h7 => absurd (h6.trans h7) e1⟩
    rw [← h5, ← h6, ← s3 e1, ← s2]
theorem round_ans {s : List UInt8} (hs : s.length ≤ 1000) {ts : List Tok} {n : Nat} (h : ans s = (ts, n, 0)) : ans (rt ts) = (ts.map flat, 0, 0) := by
  have hk := ans_ok (s := s) (by rw [h])
  have hts : (tk 1 s).1 = ts := by rw [hk.2.2] at h; injection h
  have hf := (tk_form s 1).1
  rw [hts] at hf
  have hb := (ans_bound s).2.2.2.2
  rw [h] at hb
  have hb : (rt ts).length ≤ 2 * s.length := hb
  rw [ans_eq (by omega), round ts (fun t ht => (hf t ht).1)]
  rfl
theorem blank_ans {k : Nat} (h : k ≤ 60000) : ans (List.replicate k 32) = ([], 0, 0) := by
  rw [ans_eq (by rw [List.length_replicate]; exact h), blank_any]
  rfl
theorem number_ans (z n : Nat) (hz : z ≤ 7) (hn : (dec n).length ≤ 20) : ans (10 :: (List.replicate z 48 ++ dec n ++ [59])) = (if 4294967295 < n then ([], 2, 2) else ([(1, dec n, 2), (4, [59], 2)], 0, 0)) ∧ ans (List.replicate z 48 ++ dec n ++ [95]) = ([], 1, 3) := by
  constructor
  · rw [ans_eq (by rw [List.length_cons, List.length_append, List.length_append, List.length_replicate, List.length_singleton]; omega), tk_ten, num_line]
    split <;> rfl
  · rw [ans_eq (by rw [List.length_append, List.length_append, List.length_replicate, List.length_singleton]; omega), num_under]
    rfl
end Go.Proofs.YtpnnkdgoaeibbaaDoor.L19
