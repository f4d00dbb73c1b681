/- What the laws of the assembler say of its plain functions. No program is named here. -/
import Derived.Test.YtpnnkdgoaeibbaaDoorA18Math
namespace Go.Proofs.YtpnnkdgoaeibbaaDoor.A18
open Mem
set_option linter.unusedVariables false
set_option linter.unusedSimpArgs false

/-! ### What an assembled source says -/
structure AsmOk (s : List UInt8) (o : Int) : Prop where
  o0 : 0 ≤ o
  o1 : o < 262144
  flts : ∀ k t, (toks s)[k]? = some t → flt (dfs (wof (toks s))) (dfs (wof ((toks s).take k))) t.1 = 0
  len : (bld nul [] (wof (toks s))).length ≤ 40000
  eq : asm s o = ⟨bld (adr (lbs nul o [] (wof (toks s)))) [] (wof (toks s)), lbs nul o [] (wof (toks s)), 0, 0⟩
theorem flt_ne (D seen : List (List UInt8)) (w : List UInt8) : flt D seen w = 0 ∨ flt D seen w = 3 ∨ flt D seen w = 7 ∨ flt D seen w = 8 := by
  unfold flt
  split
  · split <;> simp
  · split
    · split <;> simp
    · split <;> simp
theorem chk_num {D : List (List UInt8)} : ∀ {l : List Tok} {seen}, (chk D seen l).2 = 0 ∨ (chk D seen l).2 = 3 ∨ (chk D seen l).2 = 7 ∨ (chk D seen l).2 = 8 := by
  intro l
  induction l with
  | nil => intro seen; exact .inl rfl
  | cons t r ih =>
    intro seen
    rw [chk]
    split
    · exact ih
    · exact flt_ne _ _ _
theorem asm_ok {s : List UInt8} {o : Int} (h : (asm s o).err = 0) : AsmOk s o := by
  have hh := h
  unfold asm at h
  split at h
  · cases h
  · rename_i ho
    unfold asmW at h
    split at h
    · rename_i h1
      exact absurd h h1
    · rename_i h1
      split at h
      · cases h
      · rename_i h2
        have h1 : (chk (dfs (wof (toks s))) [] (toks s)).2 = 0 := by
          by_cases e : (chk (dfs (wof (toks s))) [] (toks s)).2 = 0
          · exact e
          · exact absurd e h1
        refine ⟨by omega, by omega, fun k t hk => ?_, by omega, ?_⟩
        · have := (chk_each.1 h1) k t hk
          simpa using this
        · unfold asm asmW
          rw [if_neg ho, if_neg (by rw [h1]; simp), if_neg h2]
theorem asm_mk {s : List UInt8} {o : Int} (o0 : 0 ≤ o) (o1 : o < 262144) (hf : (chk (dfs (wof (toks s))) [] (toks s)).2 = 0) (hl : (bld nul [] (wof (toks s))).length ≤ 40000) :
    asm s o = ⟨bld (adr (lbs nul o [] (wof (toks s)))) [] (wof (toks s)), lbs nul o [] (wof (toks s)), 0, 0⟩ := by
  unfold asm asmW
  rw [if_neg (by omega), if_neg (by rw [hf]; simp), if_neg (by omega)]
theorem asm_bad {s : List UInt8} {o : Int} (h : (asm s o).err ≠ 0) : (asm s o).text = [] ∧ (asm s o).labs = [] := by
  unfold asm at h ⊢
  split
  · exact ⟨rfl, rfl⟩
  · rename_i ho
    rw [if_neg ho] at h
    unfold asmW at h ⊢
    split
    · exact ⟨rfl, rfl⟩
    · rename_i h1
      rw [if_neg h1] at h
      split
      · exact ⟨rfl, rfl⟩
      · rename_i h2
        rw [if_neg h2] at h
        exact absurd rfl h

/-! ### Another origin -/
theorem lbs_shift (A : List UInt8 → Nat) (o : Int) : ∀ (l : List (List UInt8)) (t : List UInt8), lbs A o t l = (lbs A 0 t l).map fun p => (p.1, o + p.2) := by
  intro l
  induction l with
  | nil => intro t; rfl
  | cons w r ih =>
    intro t
    rw [lbs, lbs, ih, List.map_append]
    congr 1
    rcases e : defN w with _ | n <;> simp [e]
structure Org (x y : Asm) (a b : Int) : Prop where
  line : x.line = y.line
  err : x.err = y.err
  text : dl x.text y.text = true
  labs : x.labs.map (fun p => (p.1, p.2 - a)) = y.labs.map fun p => (p.1, p.2 - b)
theorem origin_of (s : List UInt8) {a b : Int} (a0 : 0 ≤ a) (a1 : a < 262144) (b0 : 0 ≤ b) (b1 : b < 262144) : Org (asm s a) (asm s b) a b := by
  unfold asm
  rw [if_neg (show ¬ (a < 0 ∨ 262144 ≤ a) by omega), if_neg (show ¬ (b < 0 ∨ 262144 ≤ b) by omega)]
  unfold asmW
  split
  · exact ⟨rfl, rfl, rfl, rfl⟩
  · split
    · exact ⟨rfl, rfl, rfl, rfl⟩
    · refine ⟨rfl, rfl, dl_bld _ _ _ rfl, ?_⟩
      dsimp only
      rw [lbs_shift nul a, lbs_shift nul b, List.map_map, List.map_map]
      congr 1
      funext p
      simp only [Function.comp]
      congr 1
      omega

/-! ### Two sources, one behind the other -/
theorem tk_join : ∀ (a b cur : List UInt8) (n : Nat) (cm : Bool), ∃ m, tk n cm cur (a ++ 10 :: b) = tk n cm cur a ++ tk m false [] b := by
  intro a
  induction a with
  | nil => intro b cur n cm; exact ⟨n + 1, by rw [List.nil_append, tk_ten, tk_nil]⟩
  | cons c r ih =>
    intro b cur n cm
    rw [List.cons_append, tk, tk]
    split
    · obtain ⟨m, hm⟩ := ih b [] (n + 1) false
      exact ⟨m, by rw [hm, List.append_assoc]⟩
    split
    · exact ih b cur n true
    split
    · obtain ⟨m, hm⟩ := ih b [] n true
      exact ⟨m, by rw [hm, List.append_assoc]⟩
    split
    · obtain ⟨m, hm⟩ := ih b [] n false
      exact ⟨m, by rw [hm, List.append_assoc]⟩
    · exact ih b (cur ++ [c]) n false
theorem bld_congr {A B : List UInt8 → Nat} : ∀ {l : List (List UInt8)} {t : List UInt8}, (∀ w ∈ l, ∀ n, refN w = some n → A n = B n) → bld A t l = bld B t l := by
  intro l
  induction l with
  | nil => intro t _; rfl
  | cons w r ih =>
    intro t h
    rw [bld, bld, ih fun x hx => h x (by simp [hx])]
    congr 1
    unfold stp
    split
    · rfl
    · split
      · rename_i n hn
        rw [h w (by simp) n hn]
      · rfl
theorem look_app {L M : List (List UInt8 × Int)} {n : List UInt8} (h : n ∈ L.map (·.1)) : look (L ++ M) n = look L n := by
  unfold look
  rw [List.find?_append]
  obtain ⟨p, hp, rfl⟩ := List.mem_map.1 h
  rcases e : L.find? (fun q => q.1 == p.1) with _ | q
  · have := List.find?_eq_none.1 e p hp
    simp at this
  · rw [e]; rfl
theorem wof_app (a b : List Tok) : wof (a ++ b) = wof a ++ wof b := by unfold wof; rw [List.map_append]
theorem flt_ref {D seen : List (List UInt8)} {w n : List UInt8} (h : flt D seen w = 0) (hr : refN w = some n) : n ∈ D := by
  unfold flt at h
  split at h
  · rename_i m hm
    rw [ref_def hm] at hr
    cases hr
  · rw [hr] at h
    dsimp only at h
    split at h
    · assumption
    · cases h
theorem concat_of {a b : List UInt8} {o : Int} (ha : (asm a o).err = 0) (hb : (asm (a ++ 10 :: b) o).err = 0) :
    (∃ m, (asm (a ++ 10 :: b) o).labs = (asm a o).labs ++ m) ∧ ∃ m, (asm (a ++ 10 :: b) o).text = (asm a o).text ++ m := by
  have A := asm_ok ha
  have B := asm_ok hb
  obtain ⟨k, hk⟩ := tk_join a b [] 1 false
  have hw : wof (toks (a ++ 10 :: b)) = wof (toks a) ++ wof (tk k false [] b) := by
    unfold toks
    rw [hk, wof_app]
  rw [A.eq, B.eq]
  dsimp only
  rw [hw]
  refine ⟨⟨_, lbs_app _ _ _ _ _⟩, ?_⟩
  rw [bld_app]
  obtain ⟨m, hm⟩ := bld_pre (adr (lbs nul o [] (wof (toks a) ++ wof (tk k false [] b)))) (wof (tk k false [] b)) (bld (adr (lbs nul o [] (wof (toks a) ++ wof (tk k false [] b)))) [] (wof (toks a)))
  refine ⟨m, ?_⟩
  rw [hm]
  congr 1
  refine bld_congr fun w hw n hn => ?_
  unfold adr
  rw [lbs_app, look_app]
  rw [lbs_names]
  obtain ⟨t, ht, rfl⟩ := List.mem_map.1 hw
  obtain ⟨i, hi⟩ := List.mem_iff_getElem?.1 ht
  exact flt_ref (A.flts i t hi) hn

/-! ### Words between single spaces -/
def jn : List (List UInt8) → List UInt8
  | [] => []
  | [w] => w
  | w :: v :: r => w ++ 32 :: jn (v :: r)
theorem jn_cons (w : List UInt8) {l : List (List UInt8)} (h : l ≠ []) : jn (w :: l) = w ++ 32 :: jn l := by
  cases l with
  | nil => exact absurd rfl h
  | cons v r => rfl
theorem jn_snoc : ∀ (l : List (List UInt8)) (w : List UInt8), jn (l ++ [w]) = if l = [] then w else jn l ++ 32 :: w := by
  intro l
  induction l with
  | nil => intro w; rfl
  | cons v r ih =>
    intro w
    by_cases h : r = []
    · subst h; rfl
    · rw [List.cons_append, jn_cons v (by simp), ih, if_neg h, if_neg (by simp), jn_cons v h]; simp
theorem toks_jn : ∀ (l : List (List UInt8)) (n : Nat), (∀ w ∈ l, Wd w) → tk n false [] (jn l) = l.map fun w => (w, n) := by
  intro l n
  induction l with
  | nil => intro _; rfl
  | cons w r ih =>
    intro h
    have hw := h w (by simp)
    by_cases hr : r = []
    · subst hr
      have := tk_word n [] w [] hw.2
      rw [List.append_nil, List.nil_append] at this
      show tk n false [] w = _
      rw [this, tk_nil, fl_cons hw.1]
      rfl
    · rw [jn_cons w hr, tk_word n _ w [] hw.2, List.nil_append, tk_space, fl_cons hw.1, ih fun v hv => h v (by simp [hv])]
      rfl
/-- A space ahead of each word. -/
def sj (l : List (List UInt8)) : List UInt8 := l.flatMap fun w => 32 :: w
theorem sj_snoc (l : List (List UInt8)) (w : List UInt8) : sj (l ++ [w]) = sj l ++ 32 :: w := by simp [sj]
theorem toks_sj : ∀ (l : List (List UInt8)) (n : Nat), (∀ w ∈ l, Wd w) → tk n false [] (sj l) = l.map fun w => (w, n) := by
  intro l n
  induction l with
  | nil => intro _; rfl
  | cons w r ih =>
    intro h
    have hw := h w (by simp)
    have ih := ih fun v hv => h v (by simp [hv])
    show tk n false [] (32 :: w ++ sj r) = _
    rw [List.cons_append, tk_space, fl_nil, List.nil_append, tk_word n _ w [] hw.2, List.nil_append, tk_end n w, ih, fl_cons hw.1]
    · rfl
    · intro c hc
      cases r with
      | nil => simp [sj] at hc
      | cons v r => simp [sj] at hc; subst hc; rfl
theorem wof_const (l : List (List UInt8)) (n : Nat) : wof (l.map fun w => (w, n)) = l := by
  unfold wof
  rw [List.map_map]
  exact List.map_id' _ |>.symm ▸ rfl

/-! ### The labels -/
/-- Zeros for a reference. -/
def rep (w : List UInt8) : List UInt8 := if w.head? = some 38 then [48, 48, 48, 48, 48, 48] else w
def plw (ws : List (List UInt8)) : List (List UInt8) := (ws.filter fun w => (defN w).isNone).map rep
theorem plw_app (a b : List (List UInt8)) : plw (a ++ b) = plw a ++ plw b := by unfold plw; rw [List.filter_append, List.map_append]
def Good (w : List UInt8) : Prop := (∃ n, defN w = some n) ∨ (∃ n, refN w = some n) ∨ codeB w = true
theorem flt_good {D seen : List (List UInt8)} {w : List UInt8} (h : flt D seen w = 0) : Good w := by
  unfold flt at h
  split at h
  · exact .inl ⟨_, by assumption⟩
  · split at h
    · exact .inr (.inl ⟨_, by assumption⟩)
    · split at h
      · exact .inr (.inr (by assumption))
      · cases h
theorem flt_new {D seen : List (List UInt8)} {w n : List UInt8} (h : flt D seen w = 0) (hd : defN w = some n) : n ∉ seen := by
  unfold flt at h
  rw [hd] at h
  dsimp only at h
  split at h
  · cases h
  · assumption
theorem code_head {w : List UInt8} (h : codeB w = true) : w.head? ≠ some 38 := by
  obtain ⟨h0, h1⟩ := code_in h
  cases w with
  | nil => exact absurd rfl h0
  | cons c r =>
    intro e
    simp at e
    subst e
    have := h1 38 (by simp)
    revert this
    decide
theorem rep_ref {w n : List UInt8} (h : refN w = some n) : rep w = [48, 48, 48, 48, 48, 48] := by
  obtain ⟨rfl, _⟩ := ref_some h
  rfl
theorem rep_code {w : List UInt8} (h : codeB w = true) : rep w = w := if_neg (code_head h)
theorem zeros_code : codeB [48, 48, 48, 48, 48, 48] = true := by decide
theorem plw_code {ws : List (List UInt8)} (h : ∀ w ∈ ws, Good w) : ∀ w ∈ plw ws, codeB w = true := by
  intro w hw
  obtain ⟨v, hv, rfl⟩ := List.mem_map.1 hw
  obtain ⟨hv, hn⟩ := List.mem_filter.1 hv
  rcases h v hv with ⟨n, e⟩ | ⟨n, e⟩ | e
  · rw [e] at hn; cases hn
  · rw [rep_ref e]; exact zeros_code
  · rw [rep_code e]; exact e
theorem dl_plw (A : List UInt8 → Nat) : ∀ {ws : List (List UInt8)} {t u : List UInt8}, (∀ w ∈ ws, Good w) → dl t u = true → dl (bld A t (plw ws)) (bld nul u ws) = true := by
  intro ws
  induction ws with
  | nil => intro t u _ h; exact h
  | cons w r ih =>
    intro t u hg h
    have hr : ∀ w ∈ r, Good w := fun x hx => hg x (by simp [hx])
    rcases hg w (by simp) with ⟨n, e⟩ | ⟨n, e⟩ | e
    · have : plw (w :: r) = plw r := by unfold plw; rw [List.filter_cons]; simp [e]
      rw [this, bld]
      refine ih hr ?_
      unfold stp
      rw [e]
      exact h
    · have hd : defN w = none := by
        rcases e2 : defN w with _ | m
        · rfl
        · rw [ref_def e2] at e; cases e
      have : plw (w :: r) = rep w :: plw r := by unfold plw; rw [List.filter_cons]; simp [hd]
      rw [this, rep_ref e, bld, bld]
      refine ih hr ?_
      unfold stp
      rw [hd, e, def_code zeros_code, ref_code zeros_code]
      exact dl_add h (dl_dg rfl (by decide) (six_dg _))
    · have hd := def_code e
      have : plw (w :: r) = rep w :: plw r := by unfold plw; rw [List.filter_cons]; simp [hd]
      rw [this, rep_code e, bld, bld]
      refine ih hr ?_
      unfold stp
      rw [hd, ref_code e]
      exact dl_add h (dl_refl w)
/-- The text of the words so far, as the law assembles it. -/
theorem front_of {s : List UInt8} {o : Int} (h : AsmOk s o) (k : Nat) :
    (asm (sj (plw ((wof (toks s)).take k))) o).err = 0 ∧ (asm (sj (plw ((wof (toks s)).take k))) o).text.length = (bld nul [] ((wof (toks s)).take k)).length := by
  have hg : ∀ w ∈ (wof (toks s)).take k, Good w := fun w hw => by
    obtain ⟨t, ht, rfl⟩ := List.mem_map.1 (List.mem_of_mem_take hw)
    obtain ⟨i, hi⟩ := List.mem_iff_getElem?.1 ht
    exact flt_good (h.flts i t hi)
  have hc := plw_code hg
  have ht : toks (sj (plw ((wof (toks s)).take k))) = (plw ((wof (toks s)).take k)).map fun w => (w, 1) := toks_sj _ 1 fun w hw => code_wd (hc w hw)
  have hl : ∀ A, (bld A [] (plw ((wof (toks s)).take k))).length = (bld nul [] ((wof (toks s)).take k)).length := fun A => dl_len (dl_plw A hg rfl)
  have hle : (bld nul [] ((wof (toks s)).take k)).length ≤ 40000 := by
    have h1 := h.len
    have h2 : bld nul [] (wof (toks s)) = bld nul (bld nul [] ((wof (toks s)).take k)) ((wof (toks s)).drop k) := by rw [← bld_app, List.take_append_drop]
    rw [h2] at h1
    exact Nat.le_trans (bld_len _ _ _) h1
  rw [asm_mk h.o0 h.o1 (by rw [ht]; rw [chk_code]; intro t ht; obtain ⟨w, hw, rfl⟩ := List.mem_map.1 ht; exact hc w hw) (by rw [ht, wof_const, hl]; exact hle)]
  refine ⟨rfl, ?_⟩
  dsimp only
  rw [ht, wof_const, hl]
/-- The label of a definition. -/
theorem label_of {s : List UInt8} {o : Int} (h : AsmOk s o) {k : Nat} {w n : List UInt8} (hk : (wof (toks s))[k]? = some w) (hd : defN w = some n) :
    (asm s o).labs[(dfs ((wof (toks s)).take k)).length]? = some (n, o + ((asm (sj (plw ((wof (toks s)).take k))) o).text.length : Int)) := by
  rw [(front_of h k).2, h.eq]
  dsimp only
  have hlt : k < (wof (toks s)).length := (List.getElem?_eq_some_iff.1 hk).1
  have e : wof (toks s) = (wof (toks s)).take k ++ w :: (wof (toks s)).drop (k + 1) := by
    rw [← (List.getElem?_eq_some_iff.1 hk).2, List.getElem_cons_drop, List.take_append_drop]
  have e2 : lbs nul o [] (wof (toks s)) = lbs nul o [] ((wof (toks s)).take k) ++ lbs nul o (bld nul [] ((wof (toks s)).take k)) (w :: (wof (toks s)).drop (k + 1)) := by
    rw [← lbs_app, ← e]
  have hlen : (lbs nul o [] ((wof (toks s)).take k)).length = (dfs ((wof (toks s)).take k)).length := by rw [← lbs_names nul o _ [], List.length_map]
  rw [e2, List.getElem?_append_right (by omega), hlen, Nat.sub_self, lbs, hd]
  rfl
theorem labels_all {s : List UInt8} {o : Int} (h : AsmOk s o) : (asm s o).labs.length = (dfs (wof (toks s))).length := by
  rw [h.eq]
  dsimp only
  rw [← lbs_names nul o _ [], List.length_map]
theorem text_len {s : List UInt8} {o : Int} (h : AsmOk s o) : (asm s o).text.length = (bld nul [] (wof (toks s))).length := by
  rw [h.eq]
  exact bld_len_eq _ _ _
/-- The law's own test of a definition. -/
def defT (w : List UInt8) : Bool := decide (1 < w.length) && (w.getLast? == some 58) && (w.take 1).all isLt
theorem def_test {w : List UInt8} (h : Good w) (hw : w ≠ []) : defT w = (defN w).isSome := by
  rcases h with ⟨n, e⟩ | ⟨n, e⟩ | e
  · rw [e]
    obtain ⟨rfl, hn⟩ := def_some e
    obtain ⟨c, r, rfl, hc, _⟩ := name_parts hn
    have e1 : (c :: r ++ [58]).getLast? = some 58 := by rw [List.getLast?_append]; rfl
    unfold defT
    rw [e1]
    simp [hc]
  · have hd : defN w = none := by
      rcases e2 : defN w with _ | m
      · rfl
      · rw [ref_def e2] at e; cases e
    rw [hd]
    obtain ⟨rfl, _⟩ := ref_some e
    unfold defT
    rw [show (List.take 1 (38 :: n)).all isLt = false by simp; decide]
    simp
  · rw [def_code e]
    obtain ⟨h0, h1⟩ := code_in e
    unfold defT
    cases w with
    | nil => exact absurd rfl h0
    | cons c r =>
      have : isLt c = false := by
        rcases e2 : isLt c with _ | _
        · rfl
        · have := lt_in c e2
          rw [h1 c (by simp)] at this
          cases this
      simp [this]
end Go.Proofs.YtpnnkdgoaeibbaaDoor.A18
