/- Other white space: what it changes. No program is named here. -/
import Derived.Test.YthmgocjmfhpafaaDoorA18Sz
import Derived.Lib.ReplaceLaws
import Derived.Lib.SplitLaws
namespace Go.Proofs.YthmgocjmfhpafaaDoor.A18
open Mem
set_option linter.unusedVariables false
set_option linter.unusedSimpArgs false

/-- Two spaces, a comment, a line feed, a space. -/
def gap : List UInt8 := [32, 32, 35, 32, 38, 32, 97, 110, 111, 116, 104, 101, 114, 10, 32]
def lead : List UInt8 := [35, 32, 97, 32, 99, 111, 109, 109, 101, 110, 116, 10]
def wideL (s : List UInt8) : List UInt8 := s.flatMap fun c => if c = 32 then gap else [c]
theorem wide_nil : wideL [] = [] := rfl
theorem wide_sp (r : List UInt8) : wideL (32 :: r) = gap ++ wideL r := rfl
theorem wide_cons {c : UInt8} (h : c ≠ 32) (r : List UInt8) : wideL (c :: r) = c :: wideL r := by
  unfold wideL
  rw [List.flatMap_cons, if_neg h]
  rfl
theorem wide_len : ∀ s : List UInt8, (wideL s).length ≤ 15 * s.length := by
  intro s
  induction s with
  | nil => simp [wideL]
  | cons c r ih =>
    by_cases h : c = 32
    · subst h
      rw [wide_sp, List.length_append, List.length_cons]
      have : gap.length = 15 := rfl
      omega
    · rw [wide_cons h, List.length_cons, List.length_cons]
      omega
theorem repK_other (new : List UInt8) {b : UInt8} (hb : b ≠ 32) (k : Nat) (l : List UInt8) : Lib.replaceK [32] new k (b :: l) = b :: Lib.replaceK [32] new k l := by
  cases k with
  | zero => rfl
  | succ k =>
    have hp : ([32] : List UInt8).isPrefixOf (b :: l) = false := by
      simp only [List.isPrefixOf, Bool.and_true]
      exact beq_eq_false_iff_ne.2 (fun e => hb e.symm)
    have hi : Lib.index (b :: l) [32] = if Lib.index l [32] == -1 then -1 else Lib.index l [32] + 1 := by
      rw [Lib.index, hp]
      rfl
    have hge := Lib.index_ge l [32]
    rw [Lib.replaceK, Lib.replaceK, hi]
    by_cases e : Lib.index l [32] = -1
    · rw [e]
      rfl
    · have e1 : (Lib.index l [32] == -1) = false := beq_eq_false_iff_ne.2 e
      rw [e1]
      obtain ⟨i, h⟩ : ∃ i : Nat, Lib.index l [32] = (i : Int) := ⟨(Lib.index l [32]).toNat, by omega⟩
      rw [h]
      have e2 : (((i : Int) + 1) == -1) = false := beq_eq_false_iff_ne.2 (by omega)
      have e3 : ((i : Int) == -1) = false := beq_eq_false_iff_ne.2 (by omega)
      simp only [Bool.false_eq_true, if_false, e2, e3]
      rw [show ((i : Int) + 1).toNat = i + 1 by omega, show (i : Int).toNat = i by omega, List.take_succ_cons, List.cons_append, List.cons_append]
      congr 2
theorem repK_space (new : List UInt8) : ∀ (l : List UInt8) (k : Nat), l.count 32 ≤ k → Lib.replaceK [32] new k l = l.flatMap fun c => if c = 32 then new else [c] := by
  intro l
  induction l with
  | nil =>
    intro k _
    cases k with
    | zero => rfl
    | succ k => rfl
  | cons b l ih =>
    intro k hk
    by_cases hb : b = 32
    · subst hb
      rw [List.count_cons_self] at hk
      cases k with
      | zero => omega
      | succ k =>
        have hp : ([32] : List UInt8).isPrefixOf (32 :: l) = true := rfl
        have hi : Lib.index (32 :: l) [32] = 0 := by rw [Lib.index, hp]; rfl
        rw [Lib.replaceK, hi, List.flatMap_cons, if_pos rfl, ← ih k (by omega)]
        rfl
    · rw [repK_other new hb, ih k (by rw [List.count_cons_of_ne (fun e => hb e)] at hk; exact hk), List.flatMap_cons, if_neg hb]
      rfl
theorem replace_wide (s : List UInt8) : Lib.replaceAll s [32] gap = wideL s := by
  unfold Lib.replaceAll Lib.replace Lib.replaceNum
  rw [if_neg (by decide), if_pos (by left; decide), Lib.count_one]
  exact repK_space gap s _ (Nat.le_refl _)
/-- The words are the same. -/
theorem wide_words : ∀ (s : List UInt8) (n m : Nat) (cur : List UInt8), (∀ c ∈ s, c ≠ 35 ∧ c ≠ 10) → wof (tk n false cur s) = wof (tk m false cur (wideL s)) := by
  intro s
  have hf : ∀ n m cur, wof (fl n cur) = wof (fl m cur) := fun n m cur => by unfold fl; split <;> rfl
  induction s with
  | nil => intro n m cur _; rw [wide_nil, tk_nil, tk_nil]; exact hf n m cur
  | cons c r ih =>
    intro n m cur h
    obtain ⟨h1, h2⟩ := h c (by simp)
    have hr : ∀ d ∈ r, d ≠ 35 ∧ d ≠ 10 := fun d hd => h d (by simp [hd])
    by_cases h3 : c = 32
    · subst h3
      rw [wide_sp, tk_space]
      show _ = wof (tk m false cur (32 :: 32 :: 35 :: ([32, 38, 32, 97, 110, 111, 116, 104, 101, 114] ++ 10 :: 32 :: wideL r)))
      rw [tk_space, tk_space, tk_hash, tk_line _ _ _ _ (by decide), tk_ten, tk_space, wof_app, wof_app, ih n (m + 1) [] hr, hf n m cur]
      simp only [fl_nil, List.nil_append]
    · have ht : isTk c = true := by unfold isTk; simp [h1, h2, h3]
      rw [wide_cons h3, tk_in n cur r ht, tk_in m cur _ ht]
      exact ih n m _ hr
theorem lead_words (m : List UInt8) : tk 1 false [] (lead ++ m) = tk 2 false [] m := by
  show tk 1 false [] (35 :: ([32, 97, 32, 99, 111, 109, 109, 101, 110, 116] ++ 10 :: m)) = _
  rw [tk_hash, tk_line _ _ _ _ (by decide), tk_ten, fl_nil]
  rfl
theorem line_ge : ∀ (s : List UInt8) (m : Nat) (cm : Bool) (cur : List UInt8), ∀ t ∈ tk m cm cur s, m ≤ t.2 := by
  intro s
  have hf : ∀ n cur, ∀ t ∈ fl n cur, t.2 = n := fun n cur t ht => by
    unfold fl at ht
    split at ht
    · cases ht
    · rw [List.mem_singleton.1 ht]
  induction s with
  | nil => intro m cm cur t ht; rw [tk_nil] at ht; have := hf m cur t ht; omega
  | cons c r ih =>
    intro m cm cur t ht
    rw [tk] at ht
    split at ht
    · rcases List.mem_append.1 ht with ht | ht
      · have := hf m cur t ht; omega
      · have := ih _ _ _ t ht; omega
    split at ht
    · exact ih _ _ _ t ht
    split at ht
    · rcases List.mem_append.1 ht with ht | ht
      · have := hf m cur t ht; omega
      · exact ih _ _ _ t ht
    split at ht
    · rcases List.mem_append.1 ht with ht | ht
      · have := hf m cur t ht; omega
      · exact ih _ _ _ t ht
    · exact ih _ _ _ t ht
theorem chk_wof {D : List (List UInt8)} : ∀ {l l' : List Tok} {seen}, wof l = wof l' → (chk D seen l).2 = (chk D seen l').2 := by
  intro l
  induction l with
  | nil => intro l' seen h; cases l' with | nil => rfl | cons t r => cases h
  | cons t r ih =>
    intro l' seen h
    cases l' with
    | nil => cases h
    | cons u v =>
      have h1 : t.1 = u.1 := by injection h
      have h2 : wof r = wof v := by injection h
      rw [chk, chk, h1]
      split
      · exact ih h2
      · rfl
theorem chk_line {D : List (List UInt8)} : ∀ {l : List Tok} {seen}, (chk D seen l).2 ≠ 0 → ∃ t ∈ l, (chk D seen l).1 = t.2 := by
  intro l
  induction l with
  | nil => intro seen h; exact absurd rfl h
  | cons t r ih =>
    intro seen h
    rw [chk] at h ⊢
    split at h
    · rename_i h0
      rw [if_pos h0]
      obtain ⟨u, hu, e⟩ := ih h
      exact ⟨u, List.mem_cons_of_mem _ hu, e⟩
    · rename_i h0
      rw [if_neg h0]
      exact ⟨t, by simp, rfl⟩
structure Ly (x y : Asm) : Prop where
  text : x.text = y.text
  labs : x.labs = y.labs
  err : x.err = y.err
  line : decide (0 < x.line) = decide (1 < y.line)
theorem layout_of (s : List UInt8) (o : Int) (h : ∀ c ∈ s, c ≠ 35 ∧ c ≠ 10) : Ly (asm s o) (asm (lead ++ wideL s) o) ∧ wof (toks s) = wof (toks (lead ++ wideL s)) := by
  have hw : wof (toks s) = wof (toks (lead ++ wideL s)) := by
    unfold toks
    rw [lead_words]
    exact wide_words s 1 2 [] h
  refine ⟨?_, hw⟩
  unfold asm
  split
  · exact ⟨rfl, rfl, rfl, rfl⟩
  · have hg1 := line_ge s 1 false []
    have hg2 := line_ge (wideL s) 2 false []
    rw [← lead_words] at hg2
    have hg1 : ∀ t ∈ toks s, 1 ≤ t.2 := hg1
    have hg2 : ∀ t ∈ toks (lead ++ wideL s), 2 ≤ t.2 := hg2
    obtain ⟨L, hL⟩ : ∃ L, toks s = L := ⟨_, rfl⟩
    obtain ⟨M, hM⟩ : ∃ M, toks (lead ++ wideL s) = M := ⟨_, rfl⟩
    rw [hL] at hw hg1
    rw [hM] at hw hg2
    rw [hL, hM]
    unfold asmW
    rw [← hw]
    have hc := chk_wof (D := dfs (wof L)) (seen := []) hw
    by_cases h0 : (chk (dfs (wof L)) [] L).2 = 0
    · have hm0 : (chk (dfs (wof L)) [] M).2 = 0 := by rw [← hc]; exact h0
      rw [if_neg (show ¬ (chk (dfs (wof L)) [] L).2 ≠ 0 by rw [h0]; simp), if_neg (show ¬ (chk (dfs (wof L)) [] M).2 ≠ 0 by rw [hm0]; simp)]
      split
      · exact ⟨rfl, rfl, rfl, rfl⟩
      · exact ⟨rfl, rfl, rfl, rfl⟩
    · rw [if_pos h0, if_pos (show (chk (dfs (wof L)) [] M).2 ≠ 0 by rw [← hc]; exact h0)]
      refine ⟨rfl, rfl, hc, ?_⟩
      obtain ⟨t, ht, e1⟩ := chk_line h0
      obtain ⟨u, hu, e2⟩ := chk_line (D := dfs (wof L)) (l := M) (seen := []) (by rw [← hc]; exact h0)
      dsimp only
      rw [e1, e2, decide_eq_true (show 0 < t.2 from hg1 t ht), decide_eq_true (show 1 < u.2 from hg2 u hu)]
end Go.Proofs.YthmgocjmfhpafaaDoor.A18
