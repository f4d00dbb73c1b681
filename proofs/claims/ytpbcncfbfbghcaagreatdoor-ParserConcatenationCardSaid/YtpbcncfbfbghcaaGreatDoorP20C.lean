/- The tokens of a formatted program's text. No program is named here. The parser ends: enough fuel, and what Parse hands back. No program is named here. More tokens behind a finished text (ParserConcatenation). No program is named here. Places in the list of tokens: what is left is a rest of the list, in errors, too. No program is named here. Trees in memory: rows of structs whose cells hold slices of further rows. No program is named here. Programs in memory. No program is named here. Two operators (ParserPrecedence). No program is named here. The formatted text, piece by piece, and how long it is. No program is named here. Nested constructs (ParserDepth). No program is named here. Parentheses around a complete expression (ParserParentheses). No program is named here. Parentheses around a complete expression, in a text (ParserParentheses). No program is named here. Every token on its own line (ParserLayout). No program is named here. -/
import Derived.Test.YtpbcncfbfbghcaaGreatDoorP20B
import Derived.Test.YtpbcncfbfbghcaaGreatDoorP20A
namespace Go.Proofs.YtpbcncfbfbghcaaGreatDoor.L20
open Mem L19
set_option linter.unusedVariables false
set_option linter.unusedSimpArgs false

/-! ### One token ahead of some text -/
def Nx (k : Nat) (T : Str) (b : UInt8) : Prop := (k ≤ 3 → isNm b = false ∧ isUp b = false) ∧ (k = 4 → ∀ c, T = [c] → L19.two.contains [c, b] = false ∧ ¬ (c = 47 ∧ b = 47))
theorem pre_nx {p : UInt8 → Bool} {T s : Str} (hT : ∀ c ∈ T, p c = true) (hs : ∀ b q, s = b :: q → p b = false) : pre p (T ++ s) = T.length := by
  cases s with
  | nil => rw [List.append_nil, pre_all hT]
  | cons b q => rw [pre_sep (hs b q rfl), pre_all hT]
theorem nm_dg {b : UInt8} (h : isNm b = false) : isDg b = false ∧ isLt b = false ∧ (b == 95) = false := by
  unfold isNm at h
  rw [Bool.or_eq_false_iff, Bool.or_eq_false_iff] at h
  exact ⟨h.1.2, h.1.1, h.2⟩
theorem fst_next {k : Nat} {T : Str} (h : Tk1 k T) (s : Str) (hs : ∀ b q, s = b :: q → Nx k T b) : fst (T ++ s) = good k T T.length ∧ ∃ c r, T ++ s = c :: r ∧ L19.Sta c r := by
  cases h with
  | num _ h1 h2 h3 h4 =>
    obtain ⟨c, r, rfl⟩ : ∃ c r, T = c :: r := by cases T with | nil => exact absurd rfl h2 | cons c r => exact ⟨c, r, rfl⟩
    have hc := h1 c (List.mem_cons_self)
    obtain ⟨a1, a2, a3, a4, a5⟩ := dg_al hc
    refine ⟨?_, c, r ++ s, rfl, sta_of a2 (by rintro ⟨rfl, _⟩; simp at a4)⟩
    rw [List.cons_append]
    unfold fst
    dsimp only
    rw [if_pos hc, ← List.cons_append]
    have hp : pre isDg (c :: r ++ s) = (c :: r).length := pre_nx h1 (fun b q e => (nm_dg ((hs b q e).1 (by omega)).1).1)
    unfold num
    rw [hp, List.drop_left' rfl, List.take_left' rfl, val0_self h2 h3]
    have : ¬ ((s.head?.map isAl).getD false = true) := by
      cases s with
      | nil => simp
      | cons b q =>
        obtain ⟨n1, n2⟩ := (hs b q rfl).1 (by omega)
        obtain ⟨m1, m2, m3⟩ := nm_dg n1
        show ¬ (isAl b = true)
        unfold isAl isLa
        rw [m2, n2, m3]
        simp
    rw [if_neg this, if_neg (by omega)]
  | wrd c r h1 h2 h3 =>
    obtain ⟨a1, a2, a3, a4, a5⟩ := lt_al h1
    refine ⟨?_, c, r ++ s, rfl, sta_of a2 (by rintro ⟨rfl, _⟩; simp at a4)⟩
    rw [List.cons_append]
    unfold fst
    dsimp only
    rw [if_neg (by rw [a1]; simp), if_pos h1, ← List.cons_append]
    have hk : wkind (c :: r) ≤ 3 := by unfold wkind; split <;> omega
    have hp : pre isNm (c :: r ++ s) = (c :: r).length := pre_nx h2 (fun b q e => ((hs b q e).1 hk).1)
    unfold wrd
    rw [hp, List.take_left' rfl, if_neg (by omega)]
  | one c h =>
    have q0 := not8 (P := ones.contains) (Q := isBl) (by decide +kernel) h
    have q1 := not8 (P := ones.contains) (Q := isDg) (by decide +kernel) h
    have q2 := not8 (P := ones.contains) (Q := isLt) (by decide +kernel) h
    have q3 := not8 (P := ones.contains) (Q := fun c => c == 39) (by decide +kernel) h
    refine ⟨?_, c, s, rfl, sta_of q0 ?_⟩
    · show fst (c :: s) = _
      unfold fst
      dsimp only
      have ht : L19.two.contains ((c :: s).take 2) = false := by
        cases s with
        | nil => simp [L19.two]
        | cons b q => exact ((hs b q rfl).2 rfl c rfl).1
      have hss : sgl (c :: s) = 1 := by
        unfold sgl
        rw [ht, if_neg (by simp), if_pos (by simpa using h)]
      rw [q1, q2, if_neg (by simp), if_neg (by simp), q3, if_neg (by simp)]
      unfold sgn
      rw [hss]
      rfl
    · rintro ⟨e1, e2⟩
      cases s with
      | nil => simp at e2
      | cons b q =>
        have : b = 47 := by simpa using e2
        exact ((hs b q rfl).2 rfl c rfl).2 ⟨e1, this⟩
  | two c d h =>
    have hm : [c, d] ∈ L19.two := by simpa using h
    have all : ∀ x ∈ L19.two, ∀ c d, x = [c, d] → isDg c = false ∧ isLt c = false ∧ (c == 39) = false ∧ isBl c = false ∧ (c == 47) = false := by
      intro x hx c d e
      simp [L19.two] at hx
      rcases hx with rfl | rfl | rfl | rfl | rfl | rfl <;> (injection e with e1 e2; subst e1; decide)
    obtain ⟨q1, q2, q3, q4, q5⟩ := all _ hm c d rfl
    refine ⟨?_, c, d :: s, rfl, sta_of q4 (by rintro ⟨rfl, _⟩; simp at q5)⟩
    show fst (c :: d :: s) = _
    unfold fst
    dsimp only
    have hss : sgl (c :: d :: s) = 2 := by
      unfold sgl
      rw [show (c :: d :: s).take 2 = [c, d] from rfl, h, if_pos rfl]
    rw [q1, q2, q3, if_neg (by simp), if_neg (by simp), if_neg (by simp)]
    unfold sgn
    rw [hss]
    rfl

/-! ### Tokens side by side -/
def safe : List Str := [[40], [41], [91], [93], [44], [59], [45], [123], [125]]
def okp (a b : Tk) : Prop := (a.1 ≤ 3 ∧ b.1 = 4) ∨ (a.1 = 4 ∧ (a.2 ∈ safe ∨ (a.2 = [33] ∧ b.2.head? ≠ some 61)))
def Adj : Option Tk → List It → Prop
  | _, [] => True
  | _, .sp :: r => Adj none r
  | _, .nl :: r => Adj none r
  | p, .t k T :: r => Tk1 k T ∧ (∀ a, p = some a → okp a (k, T)) ∧ Adj (some (k, T)) r
theorem sign_head {T : Str} (h : Tk1 4 T) : ∃ c r, T = c :: r ∧ isNm c = false ∧ isUp c = false := by
  generalize hk : (4 : Nat) = k at h
  cases h with
  | num => omega
  | wrd c r => unfold wkind at hk; split at hk <;> omega
  | one c h => exact ⟨c, [], rfl, not8 (P := ones.contains) (Q := isNm) (by decide +kernel) h, not8 (P := ones.contains) (Q := isUp) (by decide +kernel) h⟩
  | two c d h =>
    have hm : [c, d] ∈ L19.two := by simpa using h
    have all : ∀ x ∈ L19.two, ∀ c d, x = [c, d] → isNm c = false ∧ isUp c = false := by
      intro x hx c d e
      simp [L19.two] at hx
      rcases hx with rfl | rfl | rfl | rfl | rfl | rfl <;> (injection e with e1 e2; subst e1; decide)
    exact ⟨c, [d], rfl, all _ hm c d rfl⟩
theorem safe_two {T : Str} (h : T ∈ safe) (c b : UInt8) (e : T = [c]) : L19.two.contains [c, b] = false ∧ ¬ (c = 47 ∧ b = 47) := by
  subst e
  simp [safe] at h
  have key : ∀ c ∈ ([40, 41, 91, 93, 44, 59, 45, 123, 125] : List UInt8), L19.two.contains [c, b] = false ∧ ¬ (c = 47 ∧ b = 47) := by
    intro c hc
    simp at hc
    rcases hc with rfl | rfl | rfl | rfl | rfl | rfl | rfl | rfl | rfl <;> simp [L19.two]
  exact key c (by simpa using h)
theorem nx_of {a b : Tk} (h : okp a b) (hb : Tk1 b.1 b.2) : ∀ c q, b.2 = c :: q → Nx a.1 a.2 c := by
  intro c q e
  rcases h with ⟨h1, h2⟩ | ⟨h1, h2⟩
  · refine ⟨fun _ => ?_, fun h4 => by omega⟩
    rw [h2] at hb
    obtain ⟨c', r', e', n1, n2⟩ := sign_head hb
    rw [e] at e'
    injection e' with e1 _
    subst e1
    exact ⟨n1, n2⟩
  · refine ⟨fun h4 => by omega, fun _ d hd => ?_⟩
    rcases h2 with h2 | ⟨h2, h3⟩
    · exact safe_two h2 d c hd
    · rw [h2] at hd
      injection hd with hd _
      subst hd
      have : c ≠ 61 := fun e2 => h3 (by rw [e, e2]; rfl)
      exact ⟨by simp [L19.two, this], fun ⟨e3, _⟩ => by cases e3⟩
theorem nx_blank (k : Nat) (T : Str) (b : UInt8) (hb : b = 32 ∨ b = 10) : Nx k T b := by
  refine ⟨fun _ => by rcases hb with rfl | rfl <;> decide, fun _ c _ => ⟨?_, by rcases hb with rfl | rfl <;> simp⟩⟩
  rcases hb with rfl | rfl <;> simp [L19.two]
/-- The tokens with their lines. -/
def lnT : Nat → List It → List Tok
  | _, [] => []
  | n, .t k T :: r => (k, T, n) :: lnT n r
  | n, .sp :: r => lnT n r
  | n, .nl :: r => lnT (n + 1) r
theorem lnT_tks : ∀ (l : List It) n, (lnT n l).map (fun t => (t.1, t.2.1)) = tks l
  | [], _ => rfl
  | .t k T :: r, n => by rw [lnT, tks, List.map_cons, lnT_tks r n]
  | .sp :: r, n => by rw [lnT, tks, lnT_tks r n]
  | .nl :: r, n => by rw [lnT, tks, lnT_tks r (n + 1)]
theorem tk1_ne {k : Nat} {T : Str} (h : Tk1 k T) : ∃ c q, T = c :: q := by
  cases h with
  | num _ _ h2 => cases T with | nil => exact absurd rfl h2 | cons c r => exact ⟨c, r, rfl⟩
  | wrd c r => exact ⟨c, r, rfl⟩
  | one c => exact ⟨c, [], rfl⟩
  | two c d => exact ⟨c, [d], rfl⟩
theorem lex_items : ∀ (l : List It) (p : Option Tk) n, Adj p l → tk n (txt l) = (lnT n l, 0, 0)
  | [], _, _, _ => rfl
  | .sp :: r, p, n, h => by rw [Adj] at h; rw [txt, tk_bl _ _ (.inl rfl), lex_items r none n h]; rfl
  | .nl :: r, p, n, h => by rw [Adj] at h; rw [txt, tk_ten, lex_items r none (n + 1) h]; rfl
  | .t k T :: r, p, n, h => by
    rw [Adj] at h
    obtain ⟨h1, _, h3⟩ := h
    have hs : ∀ b q, txt r = b :: q → Nx k T b := by
      intro b q e
      cases r with
      | nil => rw [txt] at e; cases e
      | cons x r' =>
        cases x with
        | sp => rw [txt] at e; injection e with e _; exact nx_blank _ _ _ (.inl e.symm)
        | nl => rw [txt] at e; injection e with e _; exact nx_blank _ _ _ (.inr e.symm)
        | t k' T' =>
          rw [Adj] at h3
          obtain ⟨c, q', e'⟩ := tk1_ne h3.1
          rw [txt, e', List.cons_append] at e
          injection e with e _
          subst e
          exact nx_of (a := (k, T)) (b := (k', T')) (h3.2.1 (k, T) rfl) h3.1 c q' e'
    obtain ⟨f1, c, q, e, hsta⟩ := fst_next h1 (txt r) hs
    rw [txt]
    rw [e] at f1 ⊢
    rw [tk_tok _ hsta (by rw [f1]; rfl), f1]
    show addL [(k, T, n)] (tk n ((c :: q).drop T.length)) = _
    rw [← e, List.drop_left' rfl, lex_items r (some (k, T)) n h3]
    rfl
theorem Adj.none_of {p : Option Tk} {l : List It} (h : Adj p l) : Adj none l := by
  cases l with
  | nil => rw [Adj]; trivial
  | cons x r =>
    cases x with
    | sp => rw [Adj] at h ⊢; exact h
    | nl => rw [Adj] at h ⊢; exact h
    | t k T => rw [Adj] at h ⊢; exact ⟨h.1, (fun a e => by cases e), h.2.2⟩

/-! ### Formatted text is well spaced -/
def Sp (p : Option Tk) : Prop := p = none ∨ p = some (4, [40]) ∨ p = some (4, [91]) ∨ p = some (4, [33]) ∨ p = some (4, [45])
def En (q : Tk) : Prop := q.1 = 1 ∨ q.1 = 2 ∨ q = (4, [41]) ∨ q = (4, [93])
theorem sp_ok {p : Option Tk} (h : Sp p) {b : Tk} (hb : b.2.head? ≠ some 61) : ∀ a, p = some a → okp a b := by
  intro a e
  rcases h with rfl | rfl | rfl | rfl | rfl
  · cases e
  all_goals
    injection e with e
    subst e
  · exact .inr ⟨rfl, .inl (by decide)⟩
  · exact .inr ⟨rfl, .inl (by decide)⟩
  · exact .inr ⟨rfl, .inr ⟨rfl, hb⟩⟩
  · exact .inr ⟨rfl, .inl (by decide)⟩
theorem en_ok {q : Tk} (h : En q) (T : Str) : okp q (4, T) := by
  rcases h with h | h | rfl | rfl
  · exact .inl ⟨by omega, rfl⟩
  · exact .inl ⟨by omega, rfl⟩
  · exact .inr ⟨rfl, .inl (by decide)⟩
  · exact .inr ⟨rfl, .inl (by decide)⟩
theorem adj_sign {p : Option Tk} {T : Str} {r : List It} (hT : Tk1 4 T) (hp : ∀ a, p = some a → okp a (4, T)) (hr : Adj (some (4, T)) r) : Adj p (.t 4 T :: r) := by rw [Adj]; exact ⟨hT, hp, hr⟩
theorem s1 (c : UInt8) (h : ones.contains c = true) : Tk1 4 [c] := .one c h
theorem head_dg {c : UInt8} {r : Str} (h : isDg c = true) : (c :: r).head? ≠ some 61 := by
  intro e
  injection e with e
  subst e
  cases h
theorem head_lt {c : UInt8} {r : Str} (h : isLt c = true) : (c :: r).head? ≠ some 61 := by
  intro e
  injection e with e
  subst e
  cases h
theorem tk1_num {n : Nat} (h : n ≤ 4294967295) : Tk1 1 (dec n) := by
  refine .num _ (dec_dg n) (dec_ne n) (fun e => ?_) (by rw [nval_dec]; exact h)
  by_cases h0 : n = 0
  · subst h0; rw [dec_small 0 (by decide)]; rfl
  · exact absurd e (dec_head n (by omega))
theorem dec_head61 (n : Nat) : (dec n).head? ≠ some 61 := by
  cases h : dec n with
  | nil => simp
  | cons c r => exact head_dg (dec_dg n c (by rw [h]; exact List.mem_cons_self))
theorem name_head {s : Str} (h : Tk1 2 s) : s.head? ≠ some 61 := by
  generalize hk : (2 : Nat) = k at h
  cases h with
  | num => omega
  | wrd c r h1 => exact head_lt h1
  | one => omega
  | two => omega
theorem lev_tk {op : Str} (h : 1 ≤ lev op) : Tk1 4 op := by
  unfold lev at h
  split at h
  · rename_i e; rw [e]; exact .two _ _ (by decide)
  split at h
  · rename_i e; rw [e]; exact .two _ _ (by decide)
  split at h
  · rename_i e
    rcases e with e | e | e | e | e | e <;> rw [e]
    · exact .two _ _ (by decide)
    · exact .two _ _ (by decide)
    · exact .one _ (by decide)
    · exact .one _ (by decide)
    · exact .two _ _ (by decide)
    · exact .two _ _ (by decide)
  split at h
  · rename_i e; rw [e]; exact .one _ (by decide)
  split at h
  · rename_i e; rcases e with e | e <;> rw [e] <;> exact .one _ (by decide)
  split at h
  · rename_i e; rcases e with e | e | e <;> rw [e] <;> exact .one _ (by decide)
  · omega
def AX (x : Exp) : Prop := ∀ p r, Sp p → (∀ q, En q → Adj (some q) r) → Adj p (fe x ++ r)
theorem ax_par {x : Exp} (h : AX x) (lv : Nat) : ∀ p r, Sp p → (∀ q, En q → Adj (some q) r) → Adj p (par lv x (fe x) ++ r) := by
  intro p r hp hr
  unfold par
  split
  · rw [List.cons_append, List.cons_append, List.append_assoc]
    refine adj_sign (s1 40 (by decide)) (sp_ok hp (by decide)) (h _ _ (.inr (.inl rfl)) fun q hq => ?_)
    exact adj_sign (s1 41 (by decide)) (fun a e => by injection e with e; subst e; exact en_ok hq _) (hr _ (.inr (.inr (.inl rfl))))
  · exact h p r hp hr
theorem ax_sep {r : List It} (hr : ∀ q, (En q ∨ q = (4, [40])) → Adj (some q) r) : ∀ (l : List Exp), (∀ x ∈ l, AX x) → ∀ p, (p = none ∨ p = some (4, [40])) → (l = [] → Adj p r) → Adj p (sep (fel l) ++ r)
  | [], _, p, _, h0 => by rw [fel, sep]; exact h0 rfl
  | [x], h, p, hp, _ => by
    rw [fel, fel, sep]
    exact h x List.mem_cons_self p r (hp.imp id .inl) fun q hq => hr q (.inl hq)
  | x :: y :: l, h, p, hp, _ => by
    have ih := ax_sep hr (y :: l) (fun z hz => h z (List.mem_cons_of_mem _ hz)) none (.inl rfl) (fun e => by cases e)
    rw [fel] at ih
    rw [fel, fel, sep, List.append_assoc, List.append_assoc]
    refine h x List.mem_cons_self p _ (hp.imp id .inl) fun q hq => ?_
    refine adj_sign (s1 44 (by decide)) (fun a e => by injection e with e; subst e; exact en_ok hq _) ?_
    show Adj _ (.sp :: (sep (fe y :: fel l) ++ r))
    rw [Adj]
    exact ih
theorem ax_exp (x : Exp) : Wf x → AX x := by
  induction x using Exp.ind with
  | h1 n =>
    intro hw p r hp hr
    rw [Wf] at hw
    rw [fe]
    show Adj p (.t 1 (dec n) :: r)
    rw [Adj]
    exact ⟨tk1_num hw, sp_ok hp (dec_head61 n), hr _ (.inl rfl)⟩
  | h2 s =>
    intro hw p r hp hr
    rw [Wf] at hw
    rw [fe]
    show Adj p (.t 2 s :: r)
    rw [Adj]
    exact ⟨hw, sp_ok hp (name_head hw), hr _ (.inr (.inl rfl))⟩
  | h3 s i ih =>
    intro hw p r hp hr
    rw [Wf] at hw
    rw [fe]
    have e : [It.t 2 s, .t 4 [91]] ++ fe i ++ [.t 4 [93]] ++ r = .t 2 s :: .t 4 [91] :: (fe i ++ .t 4 [93] :: r) := by simp
    rw [e, Adj]
    refine ⟨hw.1, sp_ok hp (name_head hw.1), ?_⟩
    refine adj_sign (s1 91 (by decide)) (fun a e => by injection e with e; subst e; exact en_ok (.inr (.inl rfl)) _) ?_
    refine ih hw.2 _ _ (.inr (.inr (.inl rfl))) fun q hq => ?_
    exact adj_sign (s1 93 (by decide)) (fun a e => by injection e with e; subst e; exact en_ok hq _) (hr _ (.inr (.inr (.inr rfl))))
  | h4 s l ih =>
    intro hw p r hp hr
    rw [Wf] at hw
    rw [fe]
    have e : [It.t 2 s, .t 4 [40]] ++ sep (fel l) ++ [.t 4 [41]] ++ r = .t 2 s :: .t 4 [40] :: (sep (fel l) ++ .t 4 [41] :: r) := by simp
    rw [e, Adj]
    refine ⟨hw.1, sp_ok hp (name_head hw.1), ?_⟩
    refine adj_sign (s1 40 (by decide)) (fun a e => by injection e with e; subst e; exact en_ok (.inr (.inl rfl)) _) ?_
    have hcl : ∀ q, (En q ∨ q = (4, [40])) → Adj (some q) (.t 4 [41] :: r) := fun q hq => adj_sign (s1 41 (by decide)) (fun a e => by
      injection e with e
      subst e
      rcases hq with hq | rfl
      · exact en_ok hq _
      · exact .inr ⟨rfl, .inl (by decide)⟩) (hr _ (.inr (.inr (.inl rfl))))
    exact ax_sep hcl l (fun x hx => ih x hx (hw.2.mem x hx)) _ (.inr rfl) (fun _ => hcl _ (.inr rfl))
  | h5 op x ih =>
    intro hw p r hp hr
    rw [Wf] at hw
    rw [fe, List.cons_append]
    rcases hw.1 with rfl | rfl
    · exact adj_sign (s1 45 (by decide)) (sp_ok hp (by decide)) (ax_par (ih hw.2) 7 _ r (.inr (.inr (.inr (.inr rfl)))) hr)
    · exact adj_sign (s1 33 (by decide)) (sp_ok hp (by decide)) (ax_par (ih hw.2) 7 _ r (.inr (.inr (.inr (.inl rfl)))) hr)
  | h6 op x y ih1 ih2 =>
    intro hw p r hp hr
    rw [Wf] at hw
    rw [fe, List.append_assoc, List.append_assoc]
    refine ax_par (ih1 hw.2.1) _ p _ hp fun q hq => ?_
    show Adj (some q) (.sp :: .t 4 op :: .sp :: (par (lev op + 1) y (fe y) ++ r))
    rw [Adj, Adj]
    refine ⟨lev_tk hw.1, (fun a e => by cases e), ?_⟩
    rw [Adj]
    exact ax_par (ih2 hw.2.2) _ none r (.inl rfl) hr
theorem adj_ind {r : List It} (h : Adj none r) : ∀ d, Adj none (ind d ++ r)
  | 0 => h
  | d + 1 => by
    show Adj none (.sp :: .sp :: (ind d ++ r))
    rw [Adj, Adj]
    exact adj_ind h d
theorem kw3 {T : Str} {c : UInt8} {q : Str} (e : T = c :: q) (h1 : isLt c = true) (h2 : ∀ d ∈ c :: q, isNm d = true) (h3 : (c :: q).length ≤ 24) (h4 : wkind (c :: q) = 3) : Tk1 3 T := by
  rw [e, ← h4]; exact .wrd c q h1 h2 h3
theorem k_var : Tk1 3 kVar := kw3 rfl (by decide) (by decide) (by decide) (by decide)
theorem k_array : Tk1 3 kArray := kw3 rfl (by decide) (by decide) (by decide) (by decide)
theorem k_func : Tk1 3 kFunc := kw3 rfl (by decide) (by decide) (by decide) (by decide)
theorem k_if : Tk1 3 kIf := kw3 rfl (by decide) (by decide) (by decide) (by decide)
theorem k_else : Tk1 3 kElse := kw3 rfl (by decide) (by decide) (by decide) (by decide)
theorem k_while : Tk1 3 kWhile := kw3 rfl (by decide) (by decide) (by decide) (by decide)
theorem k_return : Tk1 3 kReturn := kw3 rfl (by decide) (by decide) (by decide) (by decide)
theorem k_halt : Tk1 3 kHalt := kw3 rfl (by decide) (by decide) (by decide) (by decide)
theorem no_prev {b : Tk} : ∀ a, (none : Option Tk) = some a → okp a b := fun a e => by cases e
/-- A semicolon and the end of the line. -/
theorem adj_end {q : Tk} (hq : okp q (4, [59])) {r : List It} (h : Adj none r) : Adj (some q) (.t 4 [59] :: .nl :: r) :=
  adj_sign (s1 59 (by decide)) (fun a e => by injection e with e; subst e; exact hq) (by rw [Adj]; exact h)
theorem adj_open {r : List It} (h : Adj none r) : Adj none (.t 4 [123] :: .nl :: r) := adj_sign (s1 123 (by decide)) no_prev (by rw [Adj]; exact h)
theorem adj_close {r : List It} (h : Adj none r) : Adj none (.t 4 [125] :: .nl :: r) := adj_sign (s1 125 (by decide)) no_prev (by rw [Adj]; exact h)
def AS (s : Sta) : Prop := ∀ d r, Adj none r → Adj none (fs d s ++ r)
theorem as_list : ∀ (l : List Sta), (∀ s ∈ l, AS s) → ∀ d r, Adj none r → Adj none (fsl d l ++ r)
  | [], _, d, r, h => by rw [fsl]; exact h
  | s :: l, hl, d, r, h => by
    rw [fsl, List.append_assoc]
    exact hl s List.mem_cons_self d _ (as_list l (fun t ht => hl t (List.mem_cons_of_mem _ ht)) d r h)
theorem as_sta (s : Sta) : Wfs s → AS s := by
  induction s using Sta.ind with
  | h1 s x =>
    intro hw d r h
    rw [Wfs] at hw
    rw [fs]
    have e : ind d ++ [It.t 2 s, .sp, .t 4 [61], .sp] ++ fe x ++ [.t 4 [59], .nl] ++ r = ind d ++ (.t 2 s :: .sp :: .t 4 [61] :: .sp :: (fe x ++ .t 4 [59] :: .nl :: r)) := by simp
    rw [e]
    refine adj_ind ?_ d
    rw [Adj, Adj]
    refine ⟨hw.1, no_prev, adj_sign (s1 61 (by decide)) no_prev ?_⟩
    rw [Adj]
    exact ax_exp x hw.2 none _ (.inl rfl) fun q hq => adj_end (en_ok hq _) h
  | h2 s i x =>
    intro hw d r h
    rw [Wfs] at hw
    rw [fs]
    have e : ind d ++ [It.t 2 s, .t 4 [91]] ++ fe i ++ [.t 4 [93], .sp, .t 4 [61], .sp] ++ fe x ++ [.t 4 [59], .nl] ++ r = ind d ++ (.t 2 s :: .t 4 [91] :: (fe i ++ .t 4 [93] :: .sp :: .t 4 [61] :: .sp :: (fe x ++ .t 4 [59] :: .nl :: r))) := by simp
    rw [e]
    refine adj_ind ?_ d
    rw [Adj]
    refine ⟨hw.1, no_prev, adj_sign (s1 91 (by decide)) (fun a e => by injection e with e; subst e; exact en_ok (.inr (.inl rfl)) _) ?_⟩
    refine ax_exp i hw.2.1 _ _ (.inr (.inr (.inl rfl))) fun q hq => adj_sign (s1 93 (by decide)) (fun a e => by injection e with e; subst e; exact en_ok hq _) ?_
    rw [Adj]
    refine adj_sign (s1 61 (by decide)) no_prev ?_
    rw [Adj]
    exact ax_exp x hw.2.2 none _ (.inl rfl) fun q hq => adj_end (en_ok hq _) h
  | h3 x a b iha ihb =>
    intro hw d r h
    rw [Wfs] at hw
    rw [fs]
    have ha := as_list a (fun s hs => iha s hs (hw.2.1.mem s hs)) (d + 1)
    have hb := as_list b (fun s hs => ihb s hs (hw.2.2.mem s hs)) (d + 1)
    cases b with
    | nil =>
      simp only [List.isEmpty_nil, if_true]
      have e : ind d ++ [It.t 3 kIf, .sp] ++ fe x ++ [.sp, .t 4 [123], .nl] ++ fsl (d + 1) a ++ ind d ++ [] ++ [.t 4 [125], .nl] ++ r = ind d ++ (.t 3 kIf :: .sp :: (fe x ++ .sp :: .t 4 [123] :: .nl :: (fsl (d + 1) a ++ (ind d ++ .t 4 [125] :: .nl :: r)))) := by simp
      rw [e]
      refine adj_ind ?_ d
      rw [Adj, Adj]
      refine ⟨k_if, no_prev, ax_exp x hw.1 none _ (.inl rfl) fun q hq => ?_⟩
      rw [Adj]
      exact adj_open (ha _ (adj_ind (adj_close h) d))
    | cons t l =>
      simp only [List.isEmpty_cons, Bool.false_eq_true, if_false]
      have e : ind d ++ [It.t 3 kIf, .sp] ++ fe x ++ [.sp, .t 4 [123], .nl] ++ fsl (d + 1) a ++ ind d ++ ([It.t 4 [125], .sp, .t 3 kElse, .sp, .t 4 [123], .nl] ++ fsl (d + 1) (t :: l) ++ ind d) ++ [.t 4 [125], .nl] ++ r = ind d ++ (.t 3 kIf :: .sp :: (fe x ++ .sp :: .t 4 [123] :: .nl :: (fsl (d + 1) a ++ (ind d ++ .t 4 [125] :: .sp :: .t 3 kElse :: .sp :: .t 4 [123] :: .nl :: (fsl (d + 1) (t :: l) ++ (ind d ++ .t 4 [125] :: .nl :: r)))))) := by simp
      rw [e]
      refine adj_ind ?_ d
      rw [Adj, Adj]
      refine ⟨k_if, no_prev, ax_exp x hw.1 none _ (.inl rfl) fun q hq => ?_⟩
      rw [Adj]
      refine adj_open (ha _ (adj_ind (adj_sign (s1 125 (by decide)) no_prev ?_) d))
      rw [Adj, Adj]
      refine ⟨k_else, no_prev, ?_⟩
      rw [Adj]
      exact adj_open (hb _ (adj_ind (adj_close h) d))
  | h4 x a iha =>
    intro hw d r h
    rw [Wfs] at hw
    rw [fs]
    have ha := as_list a (fun s hs => iha s hs (hw.2.mem s hs)) (d + 1)
    have e : ind d ++ [It.t 3 kWhile, .sp] ++ fe x ++ [.sp, .t 4 [123], .nl] ++ fsl (d + 1) a ++ ind d ++ [.t 4 [125], .nl] ++ r = ind d ++ (.t 3 kWhile :: .sp :: (fe x ++ .sp :: .t 4 [123] :: .nl :: (fsl (d + 1) a ++ (ind d ++ .t 4 [125] :: .nl :: r)))) := by simp
    rw [e]
    refine adj_ind ?_ d
    rw [Adj, Adj]
    refine ⟨k_while, no_prev, ax_exp x hw.1 none _ (.inl rfl) fun q hq => ?_⟩
    rw [Adj]
    exact adj_open (ha _ (adj_ind (adj_close h) d))
  | h5 x =>
    intro hw d r h
    rw [Wfs] at hw
    rw [fs]
    have e : ind d ++ [It.t 3 kReturn, .sp] ++ fe x ++ [.t 4 [59], .nl] ++ r = ind d ++ (.t 3 kReturn :: .sp :: (fe x ++ .t 4 [59] :: .nl :: r)) := by simp
    rw [e]
    refine adj_ind ?_ d
    rw [Adj, Adj]
    exact ⟨k_return, no_prev, ax_exp x hw none _ (.inl rfl) fun q hq => adj_end (en_ok hq _) h⟩
  | h6 s l =>
    intro hw d r h
    rw [Wfs] at hw
    rw [fs]
    have e : ind d ++ fe (.call s l) ++ [.t 4 [59], .nl] ++ r = ind d ++ (fe (.call s l) ++ .t 4 [59] :: .nl :: r) := by simp
    rw [e]
    exact adj_ind (ax_exp _ hw none _ (.inl rfl) fun q hq => adj_end (en_ok hq _) h) d
  | h7 =>
    intro hw d r h
    rw [fs]
    have e : ind d ++ [It.t 3 kHalt, .t 4 [59], .nl] ++ r = ind d ++ (.t 3 kHalt :: .t 4 [59] :: .nl :: r) := by simp
    rw [e]
    refine adj_ind ?_ d
    rw [Adj]
    exact ⟨k_halt, no_prev, adj_end (.inl ⟨by decide, rfl⟩) h⟩
/-- Names with commas. -/
theorem adj_names {r : List It} (hr : ∀ q : Tk, (q.1 = 2 ∨ q = (4, [40])) → Adj (some q) r) : ∀ (l : List Str), (∀ s ∈ l, Tk1 2 s) → ∀ p, (p = none ∨ p = some (4, [40])) → (l = [] → Adj p r) → Adj p (fns l ++ r)
  | [], _, p, _, h0 => h0 rfl
  | [s], h, p, hp, _ => by
    show Adj p (.t 2 s :: r)
    rw [Adj]
    have := h s List.mem_cons_self
    exact ⟨this, sp_ok (hp.imp id .inl) (name_head this), hr _ (.inl rfl)⟩
  | s :: t :: l, h, p, hp, _ => by
    have ih := adj_names hr (t :: l) (fun z hz => h z (List.mem_cons_of_mem _ hz)) none (.inl rfl) (fun e => by cases e)
    have hs := h s List.mem_cons_self
    show Adj p (.t 2 s :: .t 4 [44] :: .sp :: (fns (t :: l) ++ r))
    rw [Adj]
    refine ⟨hs, sp_ok (hp.imp id .inl) (name_head hs), adj_sign (s1 44 (by decide)) (fun a e => by injection e with e; subst e; exact .inl ⟨by show 2 ≤ 3; decide, rfl⟩) ?_⟩
    rw [Adj]
    exact ih
theorem adj_vars {l : List Str} (hl : ∀ s ∈ l, Tk1 2 s) (d : Nat) {r : List It} (h : Adj none r) : Adj none (fvars d l ++ r) := by
  unfold fvars
  cases l with
  | nil => exact h
  | cons s q =>
    simp only [List.isEmpty_cons, Bool.false_eq_true, if_false]
    have e : ind d ++ [It.t 3 kVar, .sp] ++ fns (s :: q) ++ [.t 4 [59], .nl] ++ r = ind d ++ (.t 3 kVar :: .sp :: (fns (s :: q) ++ .t 4 [59] :: .nl :: r)) := by simp
    rw [e]
    refine adj_ind ?_ d
    rw [Adj, Adj]
    refine ⟨k_var, no_prev, adj_names (fun q hq => adj_end ?_ h) _ hl none (.inl rfl) (fun e => by cases e)⟩
    rcases hq with hq | rfl
    · exact .inl ⟨by omega, rfl⟩
    · exact .inr ⟨rfl, .inl (by decide)⟩
theorem adj_arr {a : Str × Nat} (h1 : Tk1 2 a.1) (h2 : a.2 ≤ 4294967295) {r : List It} (h : Adj none r) : Adj none (farr a ++ r) := by
  show Adj none (.t 3 kArray :: .sp :: .t 2 a.1 :: .t 4 [91] :: .t 1 (dec a.2) :: .t 4 [93] :: .t 4 [59] :: .nl :: r)
  rw [Adj, Adj, Adj]
  refine ⟨k_array, no_prev, h1, no_prev, adj_sign (s1 91 (by decide)) (fun a e => by injection e with e; subst e; exact .inl ⟨by show 2 ≤ 3; decide, rfl⟩) ?_⟩
  rw [Adj]
  refine ⟨tk1_num h2, fun a e => by injection e with e; subst e; exact .inr ⟨rfl, .inl (by decide)⟩, ?_⟩
  refine adj_sign (s1 93 (by decide)) (fun a e => by injection e with e; subst e; exact .inl ⟨by show 1 ≤ 3; decide, rfl⟩) ?_
  exact adj_end (.inr ⟨rfl, .inl (by decide)⟩) h
theorem adj_fn {f : Fn} (hw : Wff f) {r : List It} (h : Adj none r) : Adj none (ffn f ++ r) := by
  obtain ⟨w1, w2, w3, w4, w5⟩ := hw
  unfold ffn
  have e : [It.t 3 kFunc, .sp, .t 2 f.name, .t 4 [40]] ++ fns f.params ++ [.t 4 [41], .sp, .t 4 [123], .nl] ++ fvars 1 f.locals ++ fsl 1 f.body ++ [.t 4 [125], .nl] ++ r = .t 3 kFunc :: .sp :: .t 2 f.name :: .t 4 [40] :: (fns f.params ++ .t 4 [41] :: .sp :: .t 4 [123] :: .nl :: (fvars 1 f.locals ++ (fsl 1 f.body ++ .t 4 [125] :: .nl :: r))) := by simp
  rw [e, Adj, Adj, Adj]
  refine ⟨k_func, no_prev, w1, no_prev, adj_sign (s1 40 (by decide)) (fun a e => by injection e with e; subst e; exact .inl ⟨by show 2 ≤ 3; decide, rfl⟩) ?_⟩
  have hin : Adj none (.t 4 [123] :: .nl :: (fvars 1 f.locals ++ (fsl 1 f.body ++ .t 4 [125] :: .nl :: r))) :=
    adj_open (adj_vars w3 1 (as_list f.body (fun s hs => as_sta s (w4.mem s hs)) 1 _ (adj_close h)))
  have hcl : ∀ q : Tk, (q.1 = 2 ∨ q = (4, [40])) → Adj (some q) (.t 4 [41] :: .sp :: .t 4 [123] :: .nl :: (fvars 1 f.locals ++ (fsl 1 f.body ++ .t 4 [125] :: .nl :: r))) := fun q hq => by
    refine adj_sign (s1 41 (by decide)) (fun a e => ?_) (by rw [Adj]; exact hin)
    injection e with e
    subst e
    rcases hq with hq | rfl
    · exact .inl ⟨by omega, rfl⟩
    · exact .inr ⟨rfl, .inl (by decide)⟩
  exact adj_names hcl _ w2 _ (.inr rfl) (fun _ => hcl _ (.inr rfl))
theorem adj_fmt {p : Prog} (hw : Wfp p) : Adj none (fmt p) := by
  obtain ⟨w1, w2, w3⟩ := hw
  have hf : ∀ l : List Fn, (∀ f ∈ l, Wff f) → Adj none (l.flatMap ffn) := fun l => by
    induction l with
    | nil => intro _; rw [List.flatMap_nil, Adj]; trivial
    | cons f r ih => intro h; rw [List.flatMap_cons]; exact adj_fn (h f List.mem_cons_self) (ih fun g hg => h g (List.mem_cons_of_mem _ hg))
  have ha : ∀ l : List (Str × Nat), (∀ a ∈ l, Tk1 2 a.1 ∧ a.2 ≤ 4294967295) → Adj none (l.flatMap farr ++ p.funcs.flatMap ffn) := fun l => by
    induction l with
    | nil => intro _; exact hf _ w3
    | cons a r ih =>
      intro h
      rw [List.flatMap_cons, List.append_assoc]
      exact adj_arr (h a List.mem_cons_self).1 (h a List.mem_cons_self).2 (ih fun b hb => h b (List.mem_cons_of_mem _ hb))
  unfold fmt
  rw [List.append_assoc]
  exact adj_vars w1 0 (ha _ w2)
/-- The tokens of a formatted program. -/
theorem lex_fmt {p : Prog} (hw : Wfp p) (n : Nat) : tk n (txt (fmt p)) = (lnT n (fmt p), 0, 0) := lex_items _ none n (adj_fmt hw)
end Go.Proofs.YtpbcncfbfbghcaaGreatDoor.L20
namespace Go.Proofs.YtpbcncfbfbghcaaGreatDoor.L20
open Mem L19
set_option linter.unusedVariables false
set_option linter.unusedSimpArgs false

def An {β : Type} (x : Option β) : Prop := x ≠ none
theorem An.some {β : Type} (a : β) : An (some a) := by unfold An; simp
theorem An.bnd {α β : Type} {x : Option (Rs α)} {f : α → List Tk → Option (Rs β)} (h : An x) (k : ∀ a ts, x = .some (.ok a ts) → An (f a ts)) : An (bnd x f) := by
  cases x with
  | none => exact absurd rfl h
  | some v =>
    cases v with
    | ok a ts => exact k a ts rfl
    | bad e ts => exact An.some _
theorem An.ite {β : Type} {c : Prop} [Decidable c] {x y : Option β} (h : c → An x) (k : ¬ c → An y) : An (if c then x else y) := by
  split
  · exact h ‹_›
  · exact k ‹_›
theorem tf_pos {x : Exp} (h : Wf x) : 1 ≤ (tf x).length := by
  have := (tf_head x h []).2
  cases hx : tf x with
  | nil => exact absurd hx this
  | cons a b => simp
theorem cO_pos {x : Exp} (h : Wf x) (lv : Nat) : 1 ≤ cO lv x := by
  have := tf_pos h
  have e : (tf x).length = ct (fe x) := rfl
  rw [cO_eq]
  split <;> omega
theorem tot1 : ∀ n, (∀ lvl o ts, 1 ≤ lvl → lvl ≤ 7 → o ≤ 100 → Good ts → 20 * ts.length + 11 - lvl ≤ n → An (expr n lvl o ts)) ∧
    (∀ lvl o x ts, 1 ≤ lvl → lvl ≤ 6 → o ≤ 100 → Good ts → 20 * ts.length + 1 ≤ n → An (loop n lvl o x ts)) ∧
    (∀ o ts, o ≤ 100 → Good ts → 20 * ts.length + 3 ≤ n → An (unary n o ts)) ∧ (∀ o ts, o ≤ 100 → Good ts → 20 * ts.length + 2 ≤ n → An (primary n o ts)) ∧
    (∀ o ts, o ≤ 100 → Good ts → 20 * ts.length + 1 ≤ n → An (args n o ts)) ∧ (∀ o ts, o ≤ 100 → Good ts → 20 * ts.length + 1 ≤ n → An (more n o ts))
  | 0 => ⟨fun _ _ _ _ _ _ _ h => by omega, fun _ _ _ _ _ _ _ _ h => by omega, fun _ _ _ _ h => by omega, fun _ _ _ _ h => by omega, fun _ _ _ _ h => by omega, fun _ _ _ _ h => by omega⟩
  | n + 1 => by
    obtain ⟨i1, i2, i3, i4, i5, i6⟩ := tot1 n
    have tl : ∀ ts : List Tk, ts.tail.length ≤ ts.length := fun ts => by cases ts <;> simp
    refine ⟨?_, ?_, ?_, ?_, ?_, ?_⟩
    · intro lvl o ts h1 h7 ho hg hn
      rw [expr]
      refine An.ite (fun e => i3 o ts ho hg (by omega)) (fun e => An.bnd (i1 _ _ _ (by omega) (by omega) ho hg (by omega)) fun x ts' hx => ?_)
      obtain ⟨a1, a2, a3, a4⟩ := (read1 n).1 (lvl + 1) o ts x ts' (by omega) (by omega) ho hg hx
      have := cO_pos a1 (lvl + 1)
      exact i2 lvl o x ts' h1 (by omega) ho (hg.suf a4) (by omega)
    · intro lvl o x ts h1 h6 ho hg hn
      rw [loop]
      refine An.ite (fun hb => ?_) (fun _ => An.some _)
      have hb2 : kd 4 ts = true ∧ lev (tx ts) = lvl := by simpa [bop] using hb
      have hp := kd_pos hb2.1
      have hg1 := hg.suf (suf_tail ts)
      refine An.bnd (i1 _ _ _ (by omega) (by omega) ho hg1 (by omega)) fun y ts' hy => An.ite (fun _ => An.some _) (fun _ => ?_)
      obtain ⟨a1, a2, a3, a4⟩ := (read1 n).1 (lvl + 1) o ts.tail y ts' (by omega) (by omega) ho hg1 hy
      exact i2 lvl o _ ts' h1 h6 ho (hg1.suf a4) (by omega)
    · intro o ts ho hg hn
      rw [unary]
      refine An.ite (fun hs => An.ite (fun _ => An.some _) (fun h100 => An.bnd (i3 _ _ (by omega) (hg.suf (suf_tail ts)) ?_) fun _ _ _ => An.some _)) (fun _ => i4 o ts ho hg (by omega))
      have : ts.tail.length + 1 = ts.length := by
        cases ts with
        | nil => simp [sg] at hs
        | cons t r => rfl
      omega
    · intro o ts ho hg hn
      rw [primary]
      have hg1 := hg.suf (suf_tail ts)
      refine An.ite (fun _ => An.some _) (fun _ => An.ite (fun _ => An.bnd (An.some _) fun _ ts1 he => ?_) (fun _ => An.bnd (An.some _) fun s ts1 hn1 => ?_))
      · obtain ⟨e1, e2, rfl⟩ := enter_ok he
        have p1 := sg_pos e1
        exact An.bnd (i1 _ _ _ (by omega) (by omega) (by omega) hg1 (by omega)) fun _ _ _ => An.bnd (An.some _) fun _ _ _ => An.some _
      · obtain ⟨n1, rfl, rfl⟩ := name_ok hn1
        have p1 := kd_pos n1
        refine An.ite (fun _ => An.bnd (i5 _ _ ho hg1 (by omega)) fun _ _ _ => An.some _) (fun _ => An.ite (fun _ => An.bnd (An.some _) fun _ ts2 he => ?_) (fun _ => An.some _))
        obtain ⟨e1, e2, rfl⟩ := enter_ok he
        have p2 := sg_pos e1
        exact An.bnd (i1 _ _ _ (by omega) (by omega) (by omega) (hg1.suf (suf_tail _)) (by omega)) fun _ _ _ => An.bnd (An.some _) fun _ _ _ => An.some _
    · intro o ts ho hg hn
      rw [args]
      refine An.bnd (An.some _) fun _ ts1 he => ?_
      obtain ⟨e1, e2, rfl⟩ := enter_ok he
      have p1 := sg_pos e1
      have hg1 := hg.suf (suf_tail ts)
      refine An.ite (fun _ => An.some _) (fun _ => An.bnd (i1 _ _ _ (by omega) (by omega) (by omega) hg1 (by omega)) fun x ts2 hx => ?_)
      obtain ⟨a1, a2, a3, a4⟩ := (read1 n).1 1 (o + 1) ts.tail x ts2 (by omega) (by omega) (by omega) hg1 hx
      exact An.bnd (i6 _ _ (by omega) (hg1.suf a4) (by omega)) fun _ _ _ => An.bnd (An.some _) fun _ _ _ => An.some _
    · intro o ts ho hg hn
      rw [more]
      refine An.ite (fun hs => ?_) (fun _ => An.some _)
      have p1 := sg_pos hs
      have hg1 := hg.suf (suf_tail ts)
      refine An.bnd (i1 _ _ _ (by omega) (by omega) ho hg1 (by omega)) fun x ts2 hx => ?_
      obtain ⟨a1, a2, a3, a4⟩ := (read1 n).1 1 o ts.tail x ts2 (by omega) (by omega) ho hg1 hx
      exact An.bnd (i6 _ _ ho (hg1.suf a4) (by omega)) fun _ _ _ => An.some _
theorem tot2 : ∀ n, (∀ o ts, o ≤ 100 → Good ts → 20 * ts.length + 10 ≤ n → An (stm n o ts)) ∧ (∀ o ts, o ≤ 100 → Good ts → 20 * ts.length + 11 ≤ n → An (stms n o ts)) ∧ (∀ o ts, o ≤ 100 → Good ts → 20 * ts.length + 1 ≤ n → An (block n o ts))
  | 0 => ⟨fun _ _ _ _ h => by omega, fun _ _ _ _ h => by omega, fun _ _ _ _ h => by omega⟩
  | n + 1 => by
    obtain ⟨i1, i2, i3⟩ := tot2 n
    have te : ∀ o ts, o ≤ 100 → Good ts → 20 * ts.length + 10 ≤ n → An (expr n 1 o ts) := fun o ts ho hg h => (tot1 n).1 1 o ts (by omega) (by omega) ho hg (by omega)
    have ta : ∀ o ts, o ≤ 100 → Good ts → 20 * ts.length + 1 ≤ n → An (args n o ts) := fun o ts ho hg h => (tot1 n).2.2.2.2.1 o ts ho hg h
    refine ⟨?_, ?_, ?_⟩
    · intro o ts ho hg hn
      rw [stm]
      have hg1 := hg.suf (suf_tail ts)
      refine An.ite (fun hs => ?_) (fun _ => An.ite (fun hs => ?_) (fun _ => An.ite (fun hs => ?_) (fun _ => An.ite (fun hs => ?_) (fun _ => An.bnd (An.some _) fun s t1 hn1 => ?_))))
      · have p0 := sg_pos hs
        refine An.bnd (te _ _ ho hg1 (by omega)) fun x t1 hx => ?_
        obtain ⟨a1, a2, a3, a4⟩ := readE ho hg1 hx
        have := tf_pos a1
        refine An.bnd (i3 _ _ ho (hg1.suf a4) (by omega)) fun a t2 ha => An.ite (fun he => ?_) (fun _ => An.some _)
        obtain ⟨b1, b2, b3, b4⟩ := (read2 n).2.2 o t1 a t2 ho (hg1.suf a4) ha
        have p1 := sg_pos he
        exact An.bnd (i3 _ _ ho (((hg1.suf a4).suf b4).suf (suf_tail _)) (by omega)) fun _ _ _ => An.some _
      · have p0 := sg_pos hs
        refine An.bnd (te _ _ ho hg1 (by omega)) fun x t1 hx => ?_
        obtain ⟨a1, a2, a3, a4⟩ := readE ho hg1 hx
        exact An.bnd (i3 _ _ ho (hg1.suf a4) (by omega)) fun _ _ _ => An.some _
      · have p0 := sg_pos hs
        exact An.bnd (te _ _ ho hg1 (by omega)) fun _ _ _ => An.bnd (An.some _) fun _ _ _ => An.some _
      · exact An.bnd (An.some _) fun _ _ _ => An.some _
      · obtain ⟨n1, rfl, rfl⟩ := name_ok hn1
        have p0 := kd_pos n1
        refine An.ite (fun _ => An.bnd (ta _ _ ho hg1 (by omega)) fun _ _ _ => An.bnd (An.some _) fun _ _ _ => An.some _) (fun _ => An.ite (fun _ => An.bnd (An.some _) fun _ t2 he => ?_) (fun _ => An.bnd (An.some _) fun _ t2 hw => ?_))
        · obtain ⟨e1, e2, rfl⟩ := enter_ok he
          have p1 := sg_pos e1
          have hg2 := hg1.suf (suf_tail ts.tail)
          refine An.bnd (te _ _ (by omega) hg2 (by omega)) fun i t3 hi => An.bnd (An.some _) fun _ t4 hw => An.bnd (An.some _) fun _ t5 hw2 => ?_
          obtain ⟨a1, a2, a3, a4⟩ := readE (by omega) hg2 hi
          obtain ⟨w1, rfl⟩ := want_ok hw
          obtain ⟨w2, rfl⟩ := want_ok hw2
          have p2 := sg_pos w1
          have p3 := sg_pos w2
          exact An.bnd (te _ _ ho (((hg2.suf a4).suf (suf_tail _)).suf (suf_tail _)) (by omega)) fun _ _ _ => An.bnd (An.some _) fun _ _ _ => An.some _
        · obtain ⟨w1, rfl⟩ := want_ok hw
          have p1 := sg_pos w1
          exact An.bnd (te _ _ ho (hg1.suf (suf_tail _)) (by omega)) fun _ _ _ => An.bnd (An.some _) fun _ _ _ => An.some _
    · intro o ts ho hg hn
      rw [stms]
      refine An.ite (fun _ => An.some _) (fun _ => An.bnd (i1 _ _ ho hg (by omega)) fun s t1 hs => ?_)
      obtain ⟨a1, a2, a3, a4⟩ := (read2 n).1 o ts s t1 ho hg hs
      have hpos : 1 ≤ (ts1 s).length := by
        cases s with
        | asg s x => rw [ts_asg]; simp
        | sto s i x => rw [ts_sto]; simp
        | ret x => rw [ts_ret]; simp
        | cal s l => rw [ts_cal]; simp
        | hlt => rw [ts_hlt]; simp
        | whl x a => rw [ts_whl]; simp
        | ifs x a b => rw [ts_ifs]; simp
      exact An.bnd (i2 _ _ ho (hg.suf a4) (by omega)) fun _ _ _ => An.some _
    · intro o ts ho hg hn
      rw [block]
      refine An.bnd (An.some _) fun _ t1 he => ?_
      obtain ⟨e1, e2, rfl⟩ := enter_ok he
      have p0 := sg_pos e1
      exact An.bnd (i2 _ _ (by omega) (hg.suf (suf_tail ts)) (by omega)) fun _ _ _ => An.bnd (An.some _) fun _ _ _ => An.some _
theorem tot_nm : ∀ n ts, ts.length + 1 ≤ n → An (nmore n ts)
  | 0, ts, h => by omega
  | n + 1, ts, h => by
    rw [nmore]
    refine An.ite (fun hs => ?_) (fun _ => An.some _)
    have p0 := sg_pos hs
    refine An.bnd (An.some _) fun s t1 hn => ?_
    obtain ⟨n1, rfl, rfl⟩ := name_ok hn
    have p1 := kd_pos n1
    exact An.bnd (tot_nm n _ (by omega)) fun _ _ _ => An.some _
theorem tot_names {n : Nat} {ts : List Tk} (h : ts.length + 1 ≤ n) : An (names n ts) := by
  unfold names
  refine An.bnd (An.some _) fun s t1 hn => ?_
  obtain ⟨n1, rfl, rfl⟩ := name_ok hn
  have p1 := kd_pos n1
  exact An.bnd (tot_nm n _ (by omega)) fun _ _ _ => An.some _
theorem tot_vars {n : Nat} {ts : List Tk} (h : ts.length + 1 ≤ n) : An (vars n ts) := by
  unfold vars
  have tl : ts.tail.length ≤ ts.length := by cases ts <;> simp
  exact An.bnd (tot_names (by omega)) fun _ _ _ => An.bnd (An.some _) fun _ _ _ => An.some _
theorem tot_lcls : ∀ n ts, Good ts → ts.length + 2 ≤ n → An (lcls n ts)
  | 0, ts, _, h => by omega
  | n + 1, ts, hg, h => by
    rw [lcls]
    refine An.ite (fun hs => An.bnd (tot_vars (by omega)) fun a t1 ha => ?_) (fun _ => An.some _)
    obtain ⟨a1, a2, a3, a4⟩ := read_vars hg (by rintro rfl; cases hs) ha
    exact An.bnd (tot_lcls n t1 (hg.suf a4) (by omega)) fun _ _ _ => An.some _
theorem tot_func {n : Nat} {ts : List Tk} (hg : Good ts) (h : 20 * ts.length + 12 ≤ n) : An (func n ts) := by
  unfold func
  have tl : ts.tail.length ≤ ts.length := by cases ts <;> simp
  refine An.bnd (An.some _) fun s t1 hn => An.bnd (An.some _) fun _ t2 he => ?_
  obtain ⟨n1, rfl, rfl⟩ := name_ok hn
  obtain ⟨e1, _, rfl⟩ := enter_ok he
  have p1 := kd_pos n1
  have p2 := sg_pos e1
  have g2 := ((hg.suf (suf_tail ts)).suf (suf_tail _)).suf (suf_tail _)
  refine An.bnd (An.ite (fun _ => An.some _) (fun _ => tot_names (by omega))) fun p t3 hp => ?_
  have h3 : t3.length ≤ ts.tail.tail.tail.length ∧ Good t3 := by
    unfold prms at hp
    split at hp
    · obtain ⟨_, rfl⟩ := some_ok hp; exact ⟨Nat.le_refl _, g2⟩
    · obtain ⟨a1, a2, a3, a4⟩ := read_names g2 hp
      have : 1 ≤ p.length := by cases p with | nil => exact absurd rfl a3 | cons => simp
      exact ⟨by omega, g2.suf a4⟩
  refine An.bnd (An.some _) fun _ t4 hw => An.bnd (An.some _) fun _ t5 he2 => ?_
  obtain ⟨w1, rfl⟩ := want_ok hw
  obtain ⟨e2, _, rfl⟩ := enter_ok he2
  have p3 := sg_pos w1
  have p4 := sg_pos e2
  have g3 := (h3.2.suf (suf_tail _)).suf (suf_tail _)
  refine An.bnd (tot_lcls n _ g3 (by omega)) fun l t6 hl => ?_
  obtain ⟨c1, c2, c3⟩ := read_lcls n _ l t6 g3 hl
  exact An.bnd ((tot2 n).2.1 1 t6 (by omega) (g3.suf c3) (by omega)) fun _ _ _ => An.bnd (An.some _) fun _ _ _ => An.some _
theorem tot_prog : ∀ n p ts, Good ts → 20 * ts.length + 14 ≤ n → An (prog n p ts)
  | 0, p, ts, _, h => by omega
  | n + 1, p, ts, hg, h => by
    rw [prog]
    refine An.ite (fun _ => An.some _) (fun h0 => An.ite (fun hs => An.bnd (tot_vars (by omega)) fun l t1 hl => ?_) (fun _ => An.ite (fun hs => An.bnd ?_ fun a t1 ha => ?_) (fun _ => An.ite (fun hs => An.bnd (tot_func hg (by omega)) fun f t1 hf => ?_) (fun _ => An.some _))))
    · obtain ⟨a1, a2, a3, a4⟩ := read_vars hg h0 hl
      exact tot_prog n _ t1 (hg.suf a4) (by omega)
    · unfold arr
      exact An.bnd (An.some _) fun _ _ _ => An.bnd (An.some _) fun _ _ _ => An.bnd (An.some _) fun _ _ _ => An.bnd (An.some _) fun _ _ _ => An.bnd (An.some _) fun _ _ _ => An.some _
    · unfold arr at ha
      obtain ⟨s, u1, hn, ha⟩ := bnd_ok ha
      obtain ⟨n1, rfl, rfl⟩ := name_ok hn
      obtain ⟨_, u2, he, ha⟩ := bnd_ok ha
      obtain ⟨e1, _, rfl⟩ := enter_ok he
      obtain ⟨k, u3, hk, ha⟩ := bnd_ok ha
      obtain ⟨k1, rfl, rfl⟩ := number_ok hk
      obtain ⟨_, u4, hw, ha⟩ := bnd_ok ha
      obtain ⟨w1, rfl⟩ := want_ok hw
      obtain ⟨_, u5, hw2, ha⟩ := bnd_ok ha
      obtain ⟨w2, rfl⟩ := want_ok hw2
      obtain ⟨rfl, rfl⟩ := some_ok ha
      have p0 := tail_len ts h0
      have p1 := kd_pos n1
      have p2 := sg_pos e1
      have p3 := kd_pos k1
      have p4 := sg_pos w1
      have p5 := sg_pos w2
      exact tot_prog n _ _ ((((((hg.suf (suf_tail _)).suf (suf_tail _)).suf (suf_tail _)).suf (suf_tail _)).suf (suf_tail _)).suf (suf_tail _)) (by omega)
    · obtain ⟨a1, a2, a3⟩ := read_func hg h0 hf
      have : 1 ≤ (tfn f).length := by unfold tfn; simp
      exact tot_prog n _ t1 (hg.suf a3) (by omega)

/-! ### The errors -/
def Er {α : Type} (x : Option (Rs α)) : Prop := ∀ e ts, x = some (.bad e ts) → e = 3 ∨ e = 6
theorem Er.bnd {α β : Type} {x : Option (Rs α)} {f : α → List Tk → Option (Rs β)} (h : Er x) (k : ∀ a ts, Er (f a ts)) : Er (bnd x f) := by
  intro e ts he
  cases x with
  | none => cases he
  | some v =>
    cases v with
    | ok a r => exact k a r e ts he
    | bad c r =>
      have := h c r rfl
      injection he with he
      injection he with he _
      rw [← he]; exact this
theorem Er.ite {α : Type} {c : Prop} [Decidable c] {x y : Option (Rs α)} (h : Er x) (k : Er y) : Er (if c then x else y) := by
  split
  · exact h
  · exact k
theorem Er.ok {α : Type} (a : α) (ts : List Tk) : Er (some (.ok a ts)) := fun e r h => by injection h with h; cases h
theorem Er.none {α : Type} : Er (none : Option (Rs α)) := fun e r h => by cases h
theorem Er.bad {α : Type} {c : Nat} (hc : c = 3 ∨ c = 6) (ts : List Tk) : Er (some (.bad c ts) : Option (Rs α)) := fun e r h => by
  injection h with h
  injection h with h _
  rw [← h]; exact hc
theorem er_want (s : Str) (ts : List Tk) : Er (some (want s ts)) := by
  unfold want
  split
  · exact Er.ok _ _
  · exact Er.bad (.inl rfl) _
theorem er_enter (s : Str) (o : Nat) (ts : List Tk) : Er (some (enter s o ts)) := by
  unfold enter
  split
  · split
    · exact Er.bad (.inr rfl) _
    · exact Er.ok _ _
  · exact Er.bad (.inl rfl) _
theorem er_name (ts : List Tk) : Er (some (name ts)) := by
  unfold name
  split
  · exact Er.ok _ _
  · exact Er.bad (.inl rfl) _
theorem er_number (ts : List Tk) : Er (some (number ts)) := by
  unfold number
  split
  · exact Er.ok _ _
  · exact Er.bad (.inl rfl) _
theorem er1 : ∀ n, (∀ lvl o ts, Er (expr n lvl o ts)) ∧ (∀ lvl o x ts, Er (loop n lvl o x ts)) ∧ (∀ o ts, Er (unary n o ts)) ∧ (∀ o ts, Er (primary n o ts)) ∧ (∀ o ts, Er (args n o ts)) ∧ (∀ o ts, Er (more n o ts))
  | 0 => ⟨fun _ _ _ => by rw [expr]; exact Er.none, fun _ _ _ _ => by rw [loop]; exact Er.none, fun _ _ => by rw [unary]; exact Er.none, fun _ _ => by rw [primary]; exact Er.none, fun _ _ => by rw [args]; exact Er.none, fun _ _ => by rw [more]; exact Er.none⟩
  | n + 1 => by
    obtain ⟨i1, i2, i3, i4, i5, i6⟩ := er1 n
    refine ⟨fun lvl o ts => ?_, fun lvl o x ts => ?_, fun o ts => ?_, fun o ts => ?_, fun o ts => ?_, fun o ts => ?_⟩
    · rw [expr]; exact Er.ite (i3 _ _) (Er.bnd (i1 _ _ _) fun _ _ => i2 _ _ _ _)
    · rw [loop]; exact Er.ite (Er.bnd (i1 _ _ _) fun _ _ => Er.ite (Er.ok _ _) (i2 _ _ _ _)) (Er.ok _ _)
    · rw [unary]; exact Er.ite (Er.ite (Er.bad (.inr rfl) _) (Er.bnd (i3 _ _) fun _ _ => Er.ok _ _)) (i4 _ _)
    · rw [primary]
      exact Er.ite (Er.ok _ _) (Er.ite (Er.bnd (er_enter _ _ _) fun _ _ => Er.bnd (i1 _ _ _) fun _ _ => Er.bnd (er_want _ _) fun _ _ => Er.ok _ _)
        (Er.bnd (er_name _) fun _ _ => Er.ite (Er.bnd (i5 _ _) fun _ _ => Er.ok _ _) (Er.ite (Er.bnd (er_enter _ _ _) fun _ _ => Er.bnd (i1 _ _ _) fun _ _ => Er.bnd (er_want _ _) fun _ _ => Er.ok _ _) (Er.ok _ _))))
    · rw [args]
      exact Er.bnd (er_enter _ _ _) fun _ _ => Er.ite (Er.ok _ _) (Er.bnd (i1 _ _ _) fun _ _ => Er.bnd (i6 _ _) fun _ _ => Er.bnd (er_want _ _) fun _ _ => Er.ok _ _)
    · rw [more]
      exact Er.ite (Er.bnd (i1 _ _ _) fun _ _ => Er.bnd (i6 _ _) fun _ _ => Er.ok _ _) (Er.ok _ _)
theorem er2 : ∀ n, (∀ o ts, Er (stm n o ts)) ∧ (∀ o ts, Er (stms n o ts)) ∧ (∀ o ts, Er (block n o ts))
  | 0 => ⟨fun _ _ => by rw [stm]; exact Er.none, fun _ _ => by rw [stms]; exact Er.none, fun _ _ => by rw [block]; exact Er.none⟩
  | n + 1 => by
    obtain ⟨i1, i2, i3⟩ := er2 n
    obtain ⟨e1, _, _, _, e5, _⟩ := er1 n
    refine ⟨fun o ts => ?_, fun o ts => ?_, fun o ts => ?_⟩
    · rw [stm]
      exact Er.ite (Er.bnd (e1 _ _ _) fun _ _ => Er.bnd (i3 _ _) fun _ _ => Er.ite (Er.bnd (i3 _ _) fun _ _ => Er.ok _ _) (Er.ok _ _))
        (Er.ite (Er.bnd (e1 _ _ _) fun _ _ => Er.bnd (i3 _ _) fun _ _ => Er.ok _ _)
        (Er.ite (Er.bnd (e1 _ _ _) fun _ _ => Er.bnd (er_want _ _) fun _ _ => Er.ok _ _) (Er.ite (Er.bnd (er_want _ _) fun _ _ => Er.ok _ _) (Er.bnd (er_name _) fun _ _ => Er.ite (Er.bnd (e5 _ _) fun _ _ => Er.bnd (er_want _ _) fun _ _ => Er.ok _ _)
          (Er.ite (Er.bnd (er_enter _ _ _) fun _ _ => Er.bnd (e1 _ _ _) fun _ _ => Er.bnd (er_want _ _) fun _ _ => Er.bnd (er_want _ _) fun _ _ => Er.bnd (e1 _ _ _) fun _ _ => Er.bnd (er_want _ _) fun _ _ => Er.ok _ _)
            (Er.bnd (er_want _ _) fun _ _ => Er.bnd (e1 _ _ _) fun _ _ => Er.bnd (er_want _ _) fun _ _ => Er.ok _ _))))))
    · rw [stms]; exact Er.ite (Er.ok _ _) (Er.bnd (i1 _ _) fun _ _ => Er.bnd (i2 _ _) fun _ _ => Er.ok _ _)
    · rw [block]; exact Er.bnd (er_enter _ _ _) fun _ _ => Er.bnd (i2 _ _) fun _ _ => Er.bnd (er_want _ _) fun _ _ => Er.ok _ _
theorem er_nm : ∀ n ts, Er (nmore n ts)
  | 0, _ => by rw [nmore]; exact Er.none
  | n + 1, ts => by rw [nmore]; exact Er.ite (Er.bnd (er_name _) fun _ _ => Er.bnd (er_nm n _) fun _ _ => Er.ok _ _) (Er.ok _ _)
theorem er_names (n : Nat) (ts : List Tk) : Er (names n ts) := Er.bnd (er_name _) fun _ _ => Er.bnd (er_nm n _) fun _ _ => Er.ok _ _
theorem er_vars (n : Nat) (ts : List Tk) : Er (vars n ts) := Er.bnd (er_names n _) fun _ _ => Er.bnd (er_want _ _) fun _ _ => Er.ok _ _
theorem er_lcls : ∀ n ts, Er (lcls n ts)
  | 0, _ => by rw [lcls]; exact Er.none
  | n + 1, ts => by rw [lcls]; exact Er.ite (Er.bnd (er_vars n _) fun _ _ => Er.bnd (er_lcls n _) fun _ _ => Er.ok _ _) (Er.ok _ _)
theorem er_prog : ∀ n p ts, Er (prog n p ts)
  | 0, _, _ => by rw [prog]; exact Er.none
  | n + 1, p, ts => by
    rw [prog]
    exact Er.ite (Er.ok _ _) (Er.ite (Er.bnd (er_vars n _) fun _ _ => er_prog n _ _) (Er.ite (Er.bnd (Er.bnd (er_name _) fun _ _ => Er.bnd (er_enter _ _ _) fun _ _ => Er.bnd (er_number _) fun _ _ => Er.bnd (er_want _ _) fun _ _ => Er.bnd (er_want _ _) fun _ _ => Er.ok _ _) fun _ _ => er_prog n _ _)
      (Er.ite (Er.bnd (Er.bnd (er_name _) fun _ _ => Er.bnd (er_enter _ _ _) fun _ _ => Er.bnd (Er.ite (Er.ok _ _) (er_names n _)) fun _ _ => Er.bnd (er_want _ _) fun _ _ => Er.bnd (er_enter _ _ _) fun _ _ => Er.bnd (er_lcls n _) fun _ _ => Er.bnd ((er2 n).2.1 _ _) fun _ _ => Er.bnd (er_want _ _) fun _ _ => Er.ok _ _) fun _ _ => er_prog n _ _) (Er.bad (.inl rfl) _))))
/-! ### What Parse hands back -/
def fuel (ts : List Tk) : Nat := 20 * ts.length + 14
/-- The line of the place where so many tokens are left. -/
def lineAt (l : List Tok) (rest : Nat) : Nat :=
  match l.drop (l.length - rest) with
  | t :: _ => t.2.2
  | [] => (l.getLast?.map (·.2.2)).getD 0
abbrev Ans := Prog × Nat × Nat
def pairs (l : List Tok) : List Tk := l.map fun t => (t.1, t.2.1)
def parseT (l : List Tok) : Ans :=
  match prog (fuel (pairs l)) Prog.nil (pairs l) with
  | some (.ok p _) => (p, 0, 0)
  | some (.bad e ts) => (Prog.nil, lineAt l ts.length, e)
  | none => (Prog.nil, 0, 0)
def parse (src : Str) : Ans := if (ans src).2.2 = 0 then parseT (ans src).1 else (Prog.nil, (ans src).2)
theorem good_ans (src : Str) : Good (pairs (ans src).1) := by
  intro t ht
  obtain ⟨u, hu, rfl⟩ := List.mem_map.1 ht
  by_cases h : (ans src).2.2 = 0
  · obtain ⟨_, _, e⟩ := ans_ok h
    rw [e] at hu
    exact ((tk_form src 1).1 u hu).1
  · rw [(ans_bad h).1] at hu
    cases hu
theorem parseT_of {l : List Tok} {n : Nat} {r : Rs Prog} (hg : Good (pairs l)) (h : prog n Prog.nil (pairs l) = some r) : prog (fuel (pairs l)) Prog.nil (pairs l) = some r := by
  have := tot_prog (fuel (pairs l)) Prog.nil (pairs l) hg (Nat.le_refl _)
  cases e : prog (fuel (pairs l)) Prog.nil (pairs l) with
  | none => exact absurd e this
  | some v => rw [Mo.same (fun n => mono_prog n _ _) e h]
theorem parse_ok {src : Str} {p : Prog} {n e : Nat} (h : parse src = (p, n, e)) (he : e = 0) : (ans src).2.2 = 0 ∧ Wfp p ∧ n = 0 ∧ (tks (fmt p)).length ≤ (ans src).1.length ∧ ∃ m, prog m Prog.nil (pairs (ans src).1) = some (.ok p []) := by
  subst he
  unfold parse at h
  split at h
  · rename_i h0
    unfold parseT at h
    have hg := good_ans src
    split at h
    · rename_i q r hq
      injection h with h1 h2
      injection h2 with h2 h3
      subst h1
      obtain ⟨a1, rfl, a3⟩ := read_prog _ _ _ _ _ hg ⟨by simp [Prog.nil], by simp [Prog.nil], by simp [Prog.nil]⟩ hq
      refine ⟨h0, a1, h2.symm, ?_, _, hq⟩
      have : (tks (fmt Prog.nil)).length = 0 := rfl
      rw [this] at a3
      have e2 : (pairs (ans src).1).length = (ans src).1.length := List.length_map _
      omega
    · rename_i e' ts' hq
      injection h with _ h2
      injection h2 with _ h3
      have := er_prog _ _ _ _ _ hq
      omega
    · rename_i hq
      exact absurd hq (tot_prog _ _ _ hg (Nat.le_refl _))
  · rename_i h0
    injection h with _ h2
    exact absurd (by rw [h2]) h0
theorem pairs_lnT (n : Nat) (l : List It) : pairs (lnT n l) = tks l := lnT_tks l n
theorem lnT_len (n : Nat) (l : List It) : (lnT n l).length = (tks l).length := by rw [← pairs_lnT n l]; exact (List.length_map _).symm
/-- Round trip: the formatted text of a parsed program is parsed to the same program. -/
theorem parse_fmt {p : Prog} (hw : Wfp p) (hs : (txt (fmt p)).length ≤ 60000) : ans (txt (fmt p)) = (lnT 1 (fmt p), 0, 0) ∧ parse (txt (fmt p)) = (p, 0, 0) := by
  have ha : ans (txt (fmt p)) = (lnT 1 (fmt p), 0, 0) := by rw [ans_eq hs, lex_fmt hw 1]; rfl
  refine ⟨ha, ?_⟩
  have hg := good_ans (txt (fmt p))
  unfold parse
  rw [ha] at hg ⊢
  rw [if_pos rfl]
  unfold parseT
  obtain ⟨n, h⟩ := round_prog hw
  rw [← pairs_lnT 1 (fmt p)] at h
  rw [parseT_of hg h]
/-- ParserTokens: not more tokens than the source. -/
theorem tokens_fmt {src : Str} {p : Prog} {n e : Nat} (h : parse src = (p, n, e)) (he : e = 0) (hs : (txt (fmt p)).length ≤ 60000) : (ans (txt (fmt p))).2.2 = 0 ∧ (ans (txt (fmt p))).1.length ≤ (ans src).1.length := by
  obtain ⟨h1, h2, h3, h4, h5⟩ := parse_ok h he
  rw [(parse_fmt h2 hs).1]
  exact ⟨rfl, by rw [lnT_len]; exact h4⟩
end Go.Proofs.YtpbcncfbfbghcaaGreatDoor.L20
namespace Go.Proofs.YtpbcncfbfbghcaaGreatDoor.L20
open Mem L19
set_option linter.unusedVariables false
set_option linter.unusedSimpArgs false

theorem sg_app {s : Str} {ts : List Tk} (h : ts ≠ []) (m : List Tk) : sg s (ts ++ m) = sg s ts := by
  cases ts with
  | nil => exact absurd rfl h
  | cons t r => rfl
theorem kd_app {k : Nat} {ts : List Tk} (h : ts ≠ []) (m : List Tk) : kd k (ts ++ m) = kd k ts := by
  cases ts with
  | nil => exact absurd rfl h
  | cons t r => rfl
theorem tx_app {ts : List Tk} (h : ts ≠ []) (m : List Tk) : tx (ts ++ m) = tx ts := by
  cases ts with
  | nil => exact absurd rfl h
  | cons t r => rfl
theorem tail_app {ts : List Tk} (h : ts ≠ []) (m : List Tk) : (ts ++ m).tail = ts.tail ++ m := by
  cases ts with
  | nil => exact absurd rfl h
  | cons t r => rfl
theorem bop_app {lvl : Nat} {ts : List Tk} (h : ts ≠ []) (m : List Tk) : bop lvl (ts ++ m) = bop lvl ts := by unfold bop; rw [kd_app h, tx_app h]
theorem sg_has {s : Str} {ts : List Tk} (h : sg s ts = true) : ts ≠ [] := by rintro rfl; cases h
theorem kd_has {k : Nat} {ts : List Tk} (h : kd k ts = true) : ts ≠ [] := by rintro rfl; cases h
theorem want_app {s : Str} {ts : List Tk} (h : sg s ts = true) (m : List Tk) : want s (ts ++ m) = .ok () (ts.tail ++ m) := by
  unfold want; rw [sg_app (sg_has h), h, if_pos rfl, tail_app (sg_has h)]
theorem enter_app {s : Str} {o : Nat} {ts : List Tk} (h : sg s ts = true) (ho : o ≠ 100) (m : List Tk) : enter s o (ts ++ m) = .ok () (ts.tail ++ m) := by
  unfold enter; rw [sg_app (sg_has h), h, if_pos rfl, if_neg ho, tail_app (sg_has h)]
theorem name_app {ts : List Tk} (h : kd 2 ts = true) (m : List Tk) : name (ts ++ m) = .ok (tx ts) (ts.tail ++ m) := by
  unfold name; rw [kd_app (kd_has h), h, if_pos rfl, tail_app (kd_has h), tx_app (kd_has h)]
theorem number_app {ts : List Tk} (h : kd 1 ts = true) (m : List Tk) : number (ts ++ m) = .ok (nval (tx ts)) (ts.tail ++ m) := by
  unfold number; rw [kd_app (kd_has h), h, if_pos rfl, tail_app (kd_has h), tx_app (kd_has h)]
theorem suf_ne {r ts : List Tk} (h : r <:+ ts) (k : r ≠ []) : ts ≠ [] := by
  rintro rfl
  exact k (List.suffix_nil.1 h)
theorem read_ne {n lvl o : Nat} {ts r : List Tk} {x : Exp} (h1 : 1 ≤ lvl) (h7 : lvl ≤ 7) (ho : o ≤ 100) (hg : Good ts) (h : expr n lvl o ts = some (.ok x r)) : ts ≠ [] := by
  obtain ⟨a1, a2, a3, a4⟩ := (read1 n).1 lvl o ts x r h1 h7 ho hg h
  have := cO_pos a1 lvl
  rintro rfl
  simp at a3
  omega
/-- What is left is a rest of what was there. -/
def Su {α : Type} (ts : List Tk) (x : Option (Rs α)) : Prop := ∀ a r, x = some (.ok a r) → r <:+ ts
theorem Su.bnd {α β : Type} {ts : List Tk} {x : Option (Rs α)} {f : α → List Tk → Option (Rs β)} (h : Su ts x) (k : ∀ a t, Su t (f a t)) : Su ts (bnd x f) := by
  intro b r e
  obtain ⟨a, t, h1, h2⟩ := bnd_ok e
  exact (k a t b r h2).trans (h a t h1)
theorem Su.ite {α : Type} {c : Prop} [Decidable c] {ts : List Tk} {x y : Option (Rs α)} (h : Su ts x) (k : Su ts y) : Su ts (if c then x else y) := by
  split
  · exact h
  · exact k
theorem Su.ok {α : Type} (a : α) (ts : List Tk) : Su ts (some (.ok a ts)) := fun b r h => by obtain ⟨_, rfl⟩ := some_ok h; exact List.suffix_refl _
theorem Su.tail {α : Type} {ts : List Tk} {x : Option (Rs α)} (h : Su ts.tail x) : Su ts x := fun a r e => (h a r e).trans (suf_tail ts)
theorem Su.bad {α : Type} (c : Nat) (ts t : List Tk) : Su ts (some (.bad c t) : Option (Rs α)) := fun b r h => by injection h with h; cases h
theorem Su.none {α : Type} (ts : List Tk) : Su ts (none : Option (Rs α)) := fun b r h => by cases h
theorem su_want (s : Str) (ts : List Tk) : Su ts (some (want s ts)) := fun _ r h => by obtain ⟨_, rfl⟩ := want_ok h; exact suf_tail ts
theorem su_enter (s : Str) (o : Nat) (ts : List Tk) : Su ts (some (enter s o ts)) := fun _ r h => by obtain ⟨_, _, rfl⟩ := enter_ok h; exact suf_tail ts
theorem su_name (ts : List Tk) : Su ts (some (name ts)) := fun _ r h => by obtain ⟨_, _, rfl⟩ := name_ok h; exact suf_tail ts
theorem su1 : ∀ n, (∀ lvl o ts, Su ts (expr n lvl o ts)) ∧ (∀ lvl o x ts, Su ts (loop n lvl o x ts)) ∧ (∀ o ts, Su ts (unary n o ts)) ∧ (∀ o ts, Su ts (primary n o ts)) ∧ (∀ o ts, Su ts (args n o ts)) ∧ (∀ o ts, Su ts (more n o ts))
  | 0 => ⟨fun _ _ _ => by rw [expr]; exact Su.none _, fun _ _ _ _ => by rw [loop]; exact Su.none _, fun _ _ => by rw [unary]; exact Su.none _, fun _ _ => by rw [primary]; exact Su.none _, fun _ _ => by rw [args]; exact Su.none _, fun _ _ => by rw [more]; exact Su.none _⟩
  | n + 1 => by
    obtain ⟨i1, i2, i3, i4, i5, i6⟩ := su1 n
    refine ⟨fun lvl o ts => ?_, fun lvl o x ts => ?_, fun o ts => ?_, fun o ts => ?_, fun o ts => ?_, fun o ts => ?_⟩
    · rw [expr]; exact Su.ite (i3 _ _) (Su.bnd (i1 _ _ _) fun _ _ => i2 _ _ _ _)
    · rw [loop]; exact Su.ite (Su.tail (Su.bnd (i1 _ _ _) fun _ _ => Su.ite (Su.ok _ _) (i2 _ _ _ _))) (Su.ok _ _)
    · rw [unary]; exact Su.ite (Su.ite (Su.bad _ _ _) (Su.tail (Su.bnd (i3 _ _) fun _ _ => Su.ok _ _))) (i4 _ _)
    · rw [primary]
      exact Su.ite (Su.tail (Su.ok _ _)) (Su.ite (Su.bnd (su_enter _ _ _) fun _ _ => Su.bnd (i1 _ _ _) fun _ _ => Su.bnd (su_want _ _) fun _ _ => Su.ok _ _)
        (Su.bnd (su_name _) fun _ _ => Su.ite (Su.bnd (i5 _ _) fun _ _ => Su.ok _ _) (Su.ite (Su.bnd (su_enter _ _ _) fun _ _ => Su.bnd (i1 _ _ _) fun _ _ => Su.bnd (su_want _ _) fun _ _ => Su.ok _ _) (Su.ok _ _))))
    · rw [args]
      exact Su.bnd (su_enter _ _ _) fun _ _ => Su.ite (Su.tail (Su.ok _ _)) (Su.bnd (i1 _ _ _) fun _ _ => Su.bnd (i6 _ _) fun _ _ => Su.bnd (su_want _ _) fun _ _ => Su.ok _ _)
    · rw [more]
      exact Su.ite (Su.tail (Su.bnd (i1 _ _ _) fun _ _ => Su.bnd (i6 _ _) fun _ _ => Su.ok _ _)) (Su.ok _ _)
theorem loop_suf (n lvl o : Nat) (z : Exp) (ts : List Tk) (x : Exp) (r : List Tk) (h : loop n lvl o z ts = some (.ok x r)) : r <:+ ts := (su1 n).2.1 lvl o z ts x r h
theorem ext1 (m : List Tk) : ∀ n, (∀ lvl o ts x r, 1 ≤ lvl → lvl ≤ 7 → o ≤ 100 → Good ts → r ≠ [] → expr n lvl o ts = some (.ok x r) → expr n lvl o (ts ++ m) = some (.ok x (r ++ m))) ∧
    (∀ lvl o z ts x r, 1 ≤ lvl → lvl ≤ 6 → o ≤ 100 → Good ts → r ≠ [] → r <:+ ts → loop n lvl o z ts = some (.ok x r) → loop n lvl o z (ts ++ m) = some (.ok x (r ++ m))) ∧
    (∀ o ts x r, o ≤ 100 → Good ts → r ≠ [] → unary n o ts = some (.ok x r) → unary n o (ts ++ m) = some (.ok x (r ++ m))) ∧
    (∀ o ts x r, o ≤ 100 → Good ts → r ≠ [] → primary n o ts = some (.ok x r) → primary n o (ts ++ m) = some (.ok x (r ++ m))) ∧
    (∀ o ts l r, o ≤ 100 → Good ts → args n o ts = some (.ok l r) → args n o (ts ++ m) = some (.ok l (r ++ m))) ∧
    (∀ o ts l r, o ≤ 100 → Good ts → r ≠ [] → more n o ts = some (.ok l r) → more n o (ts ++ m) = some (.ok l (r ++ m)))
  | 0 => by
    refine ⟨?_, ?_, ?_, ?_, ?_, ?_⟩
    · intro lvl o ts x r _ _ _ _ _ h; rw [expr] at h; cases h
    · intro lvl o z ts x r _ _ _ _ _ _ h; rw [loop] at h; cases h
    · intro o ts x r _ _ _ h; rw [unary] at h; cases h
    · intro o ts x r _ _ _ h; rw [primary] at h; cases h
    · intro o ts x r _ _ h; rw [args] at h; cases h
    · intro o ts x r _ _ _ h; rw [more] at h; cases h
  | n + 1 => by
    obtain ⟨i1, i2, i3, i4, i5, i6⟩ := ext1 m n
    obtain ⟨q1, q2, q3, q4, q5, q6⟩ := read1 n
    refine ⟨?_, ?_, ?_, ?_, ?_, ?_⟩
    · intro lvl o ts x r h1 h7 ho hg hr h
      rw [expr] at h ⊢
      split at h
      · rename_i e
        rw [if_pos e]
        exact i3 o ts x r ho hg hr h
      · rename_i e
        rw [if_neg e]
        obtain ⟨z, ts', hz, hx⟩ := bnd_ok h
        obtain ⟨a1, a2, a3, a4⟩ := q1 (lvl + 1) o ts z ts' (by omega) (by omega) ho hg hz
        have hd : o + dO (if lvl = 3 then 4 else lvl) z (dep z) ≤ 100 := by
          have hle : (if lvl = 3 then 4 else lvl) ≤ lvl + 1 := by split <;> omega
          have := dO_mono hle z (dep z)
          omega
        have hs := (q2 lvl o z ts' x r h1 (by omega) ho (hg.suf a4) a1 hd hx).2.2.2
        rw [i1 _ _ _ _ _ (by omega) (by omega) ho hg (suf_ne hs hr) hz, bnd_o]
        exact i2 lvl o z ts' x r h1 (by omega) ho (hg.suf a4) hr hs hx
    · intro lvl o z ts x r h1 h6 ho hg hr hsuf h
      have hts := suf_ne hsuf hr
      rw [loop] at h ⊢
      rw [bop_app hts]
      split at h
      · rename_i hb
        rw [if_pos hb]
        obtain ⟨y, ts', hy, hx⟩ := bnd_ok h
        have hg1 := hg.suf (suf_tail ts)
        obtain ⟨a1, a2, a3, a4⟩ := q1 (lvl + 1) o ts.tail y ts' (by omega) (by omega) ho hg1 hy
        rw [tail_app hts, tx_app hts]
        split at hx
        · rename_i e3
          obtain ⟨rfl, rfl⟩ := some_ok hx
          rw [i1 _ _ _ _ _ (by omega) (by omega) ho hg1 hr hy, bnd_o, if_pos e3]
        · rename_i e3
          have hs : r <:+ ts' := loop_suf n lvl o _ ts' x r hx
          rw [i1 _ _ _ _ _ (by omega) (by omega) ho hg1 (suf_ne hs hr) hy, bnd_o, if_neg e3]
          exact i2 lvl o _ ts' x r h1 h6 ho (hg1.suf a4) hr hs hx
      · rename_i hb
        rw [if_neg hb]
        obtain ⟨rfl, rfl⟩ := some_ok h
        rfl
    · intro o ts x r ho hg hr h
      have hts : ts ≠ [] := suf_ne ((read1 (n + 1)).2.2.1 o ts x r ho hg h).2.2.2 hr
      rw [unary] at h ⊢
      rw [sg_app hts, sg_app hts, tail_app hts, tx_app hts]
      split at h
      · rename_i hs
        rw [if_pos hs]
        split at h
        · cases h
        · rename_i h100
          rw [if_neg h100]
          obtain ⟨y, ts', hy, hx⟩ := bnd_ok h
          obtain ⟨rfl, rfl⟩ := some_ok hx
          rw [i3 (o + 1) ts.tail y _ (by omega) (hg.suf (suf_tail ts)) hr hy, bnd_o]
      · rename_i hs
        rw [if_neg hs]
        exact i4 o ts x r ho hg hr h
    · intro o ts x r ho hg hr h
      have hts : ts ≠ [] := suf_ne ((read1 (n + 1)).2.2.2.1 o ts x r ho hg h).2.2.2 hr
      have hg1 := hg.suf (suf_tail ts)
      rw [primary] at h ⊢
      rw [kd_app hts, sg_app hts, tail_app hts, tx_app hts]
      split at h
      · rename_i hk
        rw [if_pos hk]
        obtain ⟨rfl, rfl⟩ := some_ok h
        rfl
      rename_i hk
      rw [if_neg hk]
      split at h
      · rename_i hs
        rw [if_pos hs]
        obtain ⟨_, ts1, he, h⟩ := bnd_ok h
        obtain ⟨e1, e2, rfl⟩ := enter_ok he
        obtain ⟨y, ts2, hy, h⟩ := bnd_ok h
        obtain ⟨_, ts3, hw, h⟩ := bnd_ok h
        obtain ⟨w1, rfl⟩ := want_ok hw
        obtain ⟨rfl, rfl⟩ := some_ok h
        rw [enter_app e1 e2, bnd_o, i1 1 (o + 1) ts.tail y ts2 (by omega) (by omega) (by omega) hg1 (sg_has w1) hy, bnd_o, want_app w1, bnd_o]
      · rename_i hs
        rw [if_neg hs]
        obtain ⟨s, ts1, hn, h⟩ := bnd_ok h
        obtain ⟨n1, rfl, rfl⟩ := name_ok hn
        rw [name_app n1, bnd_o]
        have ht1 : ts.tail ≠ [] := by
          split at h
          · rename_i h2; exact sg_has h2
          · split at h
            · rename_i h2; exact sg_has h2
            · obtain ⟨_, rfl⟩ := some_ok h; exact hr
        rw [sg_app ht1, sg_app ht1]
        split at h
        · rename_i h2
          rw [if_pos h2]
          obtain ⟨l, ts2, hl, h⟩ := bnd_ok h
          obtain ⟨rfl, rfl⟩ := some_ok h
          rw [i5 o ts.tail l _ ho hg1 hl, bnd_o]
        · rename_i h2
          rw [if_neg h2]
          split at h
          · rename_i h3
            rw [if_pos h3]
            obtain ⟨_, ts2, he, h⟩ := bnd_ok h
            obtain ⟨e1, e2, rfl⟩ := enter_ok he
            obtain ⟨y, ts3, hy, h⟩ := bnd_ok h
            obtain ⟨_, ts4, hw, h⟩ := bnd_ok h
            obtain ⟨w1, rfl⟩ := want_ok hw
            obtain ⟨rfl, rfl⟩ := some_ok h
            rw [enter_app e1 e2, bnd_o, i1 1 (o + 1) ts.tail.tail y ts3 (by omega) (by omega) (by omega) (hg1.suf (suf_tail _)) (sg_has w1) hy, bnd_o, want_app w1, bnd_o]
          · rename_i h3
            rw [if_neg h3]
            obtain ⟨rfl, rfl⟩ := some_ok h
            rfl
    · intro o ts l r ho hg h
      rw [args] at h ⊢
      obtain ⟨_, ts1, he, h⟩ := bnd_ok h
      obtain ⟨e1, e2, rfl⟩ := enter_ok he
      have hg1 := hg.suf (suf_tail ts)
      rw [enter_app e1 e2, bnd_o]
      split at h
      · rename_i hc
        obtain ⟨rfl, rfl⟩ := some_ok h
        rw [sg_app (sg_has hc), if_pos hc, tail_app (sg_has hc)]
      · rename_i hc
        obtain ⟨y, ts2, hy, h⟩ := bnd_ok h
        have ht1 := read_ne (by omega) (by omega) (by omega) hg1 hy
        rw [sg_app ht1, if_neg hc]
        obtain ⟨k, ts3, hm, h⟩ := bnd_ok h
        obtain ⟨_, ts4, hw, h⟩ := bnd_ok h
        obtain ⟨w1, rfl⟩ := want_ok hw
        obtain ⟨rfl, rfl⟩ := some_ok h
        obtain ⟨a1, a2, a3, a4⟩ := q1 1 (o + 1) ts.tail y ts2 (by omega) (by omega) (by omega) hg1 hy
        have hs := (q6 (o + 1) ts2 k ts3 (by omega) (hg1.suf a4) hm).2.2.2
        rw [i1 1 (o + 1) ts.tail y ts2 (by omega) (by omega) (by omega) hg1 (suf_ne hs (sg_has w1)) hy, bnd_o, i6 (o + 1) ts2 k ts3 (by omega) (hg1.suf a4) (sg_has w1) hm, bnd_o, want_app w1, bnd_o]
    · intro o ts l r ho hg hr h
      have hts : ts ≠ [] := suf_ne ((read1 (n + 1)).2.2.2.2.2 o ts l r ho hg h).2.2.2 hr
      rw [more] at h ⊢
      rw [sg_app hts, tail_app hts]
      split at h
      · rename_i hc
        rw [if_pos hc]
        have hg1 := hg.suf (suf_tail ts)
        obtain ⟨y, ts2, hy, h⟩ := bnd_ok h
        obtain ⟨k, ts3, hm, h⟩ := bnd_ok h
        obtain ⟨rfl, rfl⟩ := some_ok h
        obtain ⟨a1, a2, a3, a4⟩ := q1 1 o ts.tail y ts2 (by omega) (by omega) ho hg1 hy
        have hs := (q6 o ts2 k ts3 ho (hg1.suf a4) hm).2.2.2
        rw [i1 1 o ts.tail y ts2 (by omega) (by omega) ho hg1 (suf_ne hs hr) hy, bnd_o, i6 o ts2 k ts3 ho (hg1.suf a4) hr hm, bnd_o]
      · rename_i hc
        rw [if_neg hc]
        obtain ⟨rfl, rfl⟩ := some_ok h
        rfl
theorem ext2 (m : List Tk) : ∀ n, (∀ o ts s r, o ≤ 100 → Good ts → r ≠ [] → stm n o ts = some (.ok s r) → stm n o (ts ++ m) = some (.ok s (r ++ m))) ∧
    (∀ o ts l r, o ≤ 100 → Good ts → r ≠ [] → stms n o ts = some (.ok l r) → stms n o (ts ++ m) = some (.ok l (r ++ m))) ∧
    (∀ o ts l r, o ≤ 100 → Good ts → block n o ts = some (.ok l r) → block n o (ts ++ m) = some (.ok l (r ++ m)))
  | 0 => by
    refine ⟨?_, ?_, ?_⟩
    · intro o ts s r _ _ _ h; rw [stm] at h; cases h
    · intro o ts s r _ _ _ h; rw [stms] at h; cases h
    · intro o ts s r _ _ h; rw [block] at h; cases h
  | n + 1 => by
    obtain ⟨i1, i2, i3⟩ := ext2 m n
    have xE : ∀ o ts x r, o ≤ 100 → Good ts → r ≠ [] → expr n 1 o ts = some (.ok x r) → expr n 1 o (ts ++ m) = some (.ok x (r ++ m)) := fun o ts x r ho hg hr h => (ext1 m n).1 1 o ts x r (by omega) (by omega) ho hg hr h
    have xA := (ext1 m n).2.2.2.2.1
    refine ⟨?_, ?_, ?_⟩
    · intro o ts s r ho hg hr h
      have hts : ts ≠ [] := suf_ne ((read2 (n + 1)).1 o ts s r ho hg h).2.2.2 hr
      rw [stm] at h ⊢
      have hg1 := hg.suf (suf_tail ts)
      rw [sg_app hts, sg_app hts, sg_app hts, sg_app hts, tail_app hts]
      split at h
      · rename_i hs
        rw [if_pos hs]
        obtain ⟨x, t1, hx, h⟩ := bnd_ok h
        obtain ⟨a1, a2, a3, a4⟩ := readE ho hg1 hx
        obtain ⟨a, t2, ha, h⟩ := bnd_ok h
        obtain ⟨b1, b2, b3, b4⟩ := (read2 n).2.2 o t1 a t2 ho (hg1.suf a4) ha
        have ht1 : t1 ≠ [] := by rintro rfl; simp at b3
        have ht2 : t2 ≠ [] := by
          split at h
          · rename_i he; exact sg_has he
          · obtain ⟨_, rfl⟩ := some_ok h; exact hr
        rw [xE _ _ _ _ ho hg1 ht1 hx, bnd_o, i3 o t1 a t2 ho (hg1.suf a4) ha, bnd_o, sg_app ht2]
        split at h
        · rename_i he
          rw [if_pos he, tail_app ht2]
          obtain ⟨b, t3, hb, h⟩ := bnd_ok h
          obtain ⟨rfl, rfl⟩ := some_ok h
          rw [i3 o t2.tail b _ ho (((hg1.suf a4).suf b4).suf (suf_tail _)) hb, bnd_o]
        · rename_i he
          rw [if_neg he]
          obtain ⟨rfl, rfl⟩ := some_ok h
          rfl
      rename_i hs; rw [if_neg hs]
      split at h
      · rename_i hs
        rw [if_pos hs]
        obtain ⟨x, t1, hx, h⟩ := bnd_ok h
        obtain ⟨a1, a2, a3, a4⟩ := readE ho hg1 hx
        obtain ⟨a, t2, ha, h⟩ := bnd_ok h
        obtain ⟨b1, b2, b3, b4⟩ := (read2 n).2.2 o t1 a t2 ho (hg1.suf a4) ha
        have ht1 : t1 ≠ [] := by rintro rfl; simp at b3
        obtain ⟨rfl, rfl⟩ := some_ok h
        rw [xE _ _ _ _ ho hg1 ht1 hx, bnd_o, i3 o t1 a _ ho (hg1.suf a4) ha, bnd_o]
      rename_i hs; rw [if_neg hs]
      split at h
      · rename_i hs
        rw [if_pos hs]
        obtain ⟨x, t1, hx, h⟩ := bnd_ok h
        obtain ⟨_, t2, hw, h⟩ := bnd_ok h
        obtain ⟨w1, rfl⟩ := want_ok hw
        obtain ⟨rfl, rfl⟩ := some_ok h
        rw [xE _ _ _ _ ho hg1 (sg_has w1) hx, bnd_o, want_app w1, bnd_o]
      rename_i hs; rw [if_neg hs]
      split at h
      · rename_i hs
        rw [if_pos hs]
        obtain ⟨_, t2, hw, h⟩ := bnd_ok h
        obtain ⟨w1, rfl⟩ := want_ok hw
        obtain ⟨rfl, rfl⟩ := some_ok h
        rw [want_app w1, bnd_o]
      rename_i hs; rw [if_neg hs]
      obtain ⟨s', t1, hn, h⟩ := bnd_ok h
      obtain ⟨n1, rfl, rfl⟩ := name_ok hn
      rw [name_app n1, bnd_o]
      have ht1 : ts.tail ≠ [] := by
        split at h
        · rename_i h2; exact sg_has h2
        · split at h
          · rename_i h2; exact sg_has h2
          · obtain ⟨_, t5, hw2, h⟩ := bnd_ok h
            exact sg_has (want_ok hw2).1
      rw [sg_app ht1, sg_app ht1]
      split at h
      · rename_i hs
        rw [if_pos hs]
        obtain ⟨l, t2, hl, h⟩ := bnd_ok h
        obtain ⟨_, t3, hw, h⟩ := bnd_ok h
        obtain ⟨w1, rfl⟩ := want_ok hw
        obtain ⟨rfl, rfl⟩ := some_ok h
        rw [xA o ts.tail l t2 ho hg1 hl, bnd_o, want_app w1, bnd_o]
      rename_i hs; rw [if_neg hs]
      split at h
      · rename_i hs
        rw [if_pos hs]
        obtain ⟨_, t2, he, h⟩ := bnd_ok h
        obtain ⟨e1, e2, rfl⟩ := enter_ok he
        obtain ⟨i, t3, hi, h⟩ := bnd_ok h
        have hg2 := hg1.suf (suf_tail ts.tail)
        obtain ⟨a1, a2, a3, a4⟩ := readE (by omega) hg2 hi
        obtain ⟨_, t4, hw, h⟩ := bnd_ok h
        obtain ⟨w1, rfl⟩ := want_ok hw
        obtain ⟨_, t5, hw2, h⟩ := bnd_ok h
        obtain ⟨w2, rfl⟩ := want_ok hw2
        obtain ⟨x, t6, hx, h⟩ := bnd_ok h
        have hg3 := ((hg2.suf a4).suf (suf_tail _)).suf (suf_tail _)
        obtain ⟨_, t7, hw3, h⟩ := bnd_ok h
        obtain ⟨w3, rfl⟩ := want_ok hw3
        obtain ⟨rfl, rfl⟩ := some_ok h
        rw [enter_app e1 e2, bnd_o, xE _ _ _ _ (by omega) hg2 (sg_has w1) hi, bnd_o, want_app w1, bnd_o, want_app w2, bnd_o, xE _ _ _ _ ho hg3 (sg_has w3) hx, bnd_o, want_app w3, bnd_o]
      · rename_i hs
        rw [if_neg hs]
        obtain ⟨_, t5, hw2, h⟩ := bnd_ok h
        obtain ⟨w2, rfl⟩ := want_ok hw2
        obtain ⟨x, t6, hx, h⟩ := bnd_ok h
        obtain ⟨_, t7, hw3, h⟩ := bnd_ok h
        obtain ⟨w3, rfl⟩ := want_ok hw3
        obtain ⟨rfl, rfl⟩ := some_ok h
        rw [want_app w2, bnd_o, xE _ _ _ _ ho (hg1.suf (suf_tail _)) (sg_has w3) hx, bnd_o, want_app w3, bnd_o]
    · intro o ts l r ho hg hr h
      have hts : ts ≠ [] := suf_ne ((read2 (n + 1)).2.1 o ts l r ho hg h).2.2.2 hr
      rw [stms] at h ⊢
      rw [sg_app hts]
      split at h
      · rename_i hs
        rw [if_pos hs]
        obtain ⟨rfl, rfl⟩ := some_ok h
        rfl
      · rename_i hs
        rw [if_neg hs]
        obtain ⟨s, t1, hs1, h⟩ := bnd_ok h
        obtain ⟨k, t2, hm, h⟩ := bnd_ok h
        obtain ⟨rfl, rfl⟩ := some_ok h
        obtain ⟨a1, a2, a3, a4⟩ := (read2 n).1 o ts s t1 ho hg hs1
        obtain ⟨b1, b2, b3, b4⟩ := (read2 n).2.1 o t1 k _ ho (hg.suf a4) hm
        rw [i1 o ts s t1 ho hg (suf_ne b4 hr) hs1, bnd_o, i2 o t1 k _ ho (hg.suf a4) hr hm, bnd_o]
    · intro o ts l r ho hg h
      rw [block] at h ⊢
      obtain ⟨_, t1, he, h⟩ := bnd_ok h
      obtain ⟨e1, e2, rfl⟩ := enter_ok he
      obtain ⟨k, t2, hm, h⟩ := bnd_ok h
      obtain ⟨_, t3, hw, h⟩ := bnd_ok h
      obtain ⟨w1, rfl⟩ := want_ok hw
      obtain ⟨rfl, rfl⟩ := some_ok h
      rw [enter_app e1 e2, bnd_o, i2 (o + 1) ts.tail k t2 (by omega) (hg.suf (suf_tail ts)) (sg_has w1) hm, bnd_o, want_app w1, bnd_o]
theorem ext_nm (m : List Tk) : ∀ n ts l r, Good ts → r ≠ [] → nmore n ts = some (.ok l r) → nmore n (ts ++ m) = some (.ok l (r ++ m))
  | 0, ts, l, r, _, _, h => by rw [nmore] at h; cases h
  | n + 1, ts, l, r, hg, hr, h => by
    have hts : ts ≠ [] := suf_ne (read_nm (n + 1) ts l r hg h).2.2 hr
    rw [nmore] at h ⊢
    rw [sg_app hts, tail_app hts]
    split at h
    · rename_i hs
      rw [if_pos hs]
      obtain ⟨s, t1, hn, h⟩ := bnd_ok h
      obtain ⟨n1, rfl, rfl⟩ := name_ok hn
      obtain ⟨k, t2, hm, h⟩ := bnd_ok h
      obtain ⟨rfl, rfl⟩ := some_ok h
      rw [name_app n1, bnd_o, ext_nm m n _ k _ ((hg.suf (suf_tail ts)).suf (suf_tail _)) hr hm, bnd_o]
    · rename_i hs
      rw [if_neg hs]
      obtain ⟨rfl, rfl⟩ := some_ok h
      rfl
theorem ext_names {n : Nat} {ts r : List Tk} {l : List Str} (m : List Tk) (hg : Good ts) (hr : r ≠ []) (h : names n ts = some (.ok l r)) : names n (ts ++ m) = some (.ok l (r ++ m)) := by
  unfold names at h ⊢
  obtain ⟨s, t1, hn, h⟩ := bnd_ok h
  obtain ⟨n1, rfl, rfl⟩ := name_ok hn
  obtain ⟨k, t2, hm, h⟩ := bnd_ok h
  obtain ⟨rfl, rfl⟩ := some_ok h
  rw [name_app n1, bnd_o, ext_nm m n _ k _ (hg.suf (suf_tail _)) hr hm, bnd_o]
theorem ext_vars {n : Nat} {ts r : List Tk} {l : List Str} (m : List Tk) (hg : Good ts) (h0 : ts ≠ []) (h : vars n ts = some (.ok l r)) : vars n (ts ++ m) = some (.ok l (r ++ m)) := by
  unfold vars at h ⊢
  obtain ⟨k, t1, hm, h⟩ := bnd_ok h
  obtain ⟨_, t2, hw, h⟩ := bnd_ok h
  obtain ⟨w1, rfl⟩ := want_ok hw
  obtain ⟨rfl, rfl⟩ := some_ok h
  rw [tail_app h0, ext_names m (hg.suf (suf_tail ts)) (sg_has w1) hm, bnd_o, want_app w1, bnd_o]
theorem ext_lcls (m : List Tk) : ∀ n ts l r, Good ts → r ≠ [] → lcls n ts = some (.ok l r) → lcls n (ts ++ m) = some (.ok l (r ++ m))
  | 0, ts, l, r, _, _, h => by rw [lcls] at h; cases h
  | n + 1, ts, l, r, hg, hr, h => by
    have hts : ts ≠ [] := suf_ne (read_lcls (n + 1) ts l r hg h).2.2 hr
    rw [lcls] at h ⊢
    rw [sg_app hts]
    split at h
    · rename_i hs
      rw [if_pos hs]
      obtain ⟨a, t1, ha, h⟩ := bnd_ok h
      obtain ⟨b, t2, hb, h⟩ := bnd_ok h
      obtain ⟨rfl, rfl⟩ := some_ok h
      obtain ⟨a1, a2, a3, a4⟩ := read_vars hg hts ha
      rw [ext_vars m hg hts ha, bnd_o, ext_lcls m n _ b _ (hg.suf a4) hr hb, bnd_o]
    · rename_i hs
      rw [if_neg hs]
      obtain ⟨rfl, rfl⟩ := some_ok h
      rfl
theorem ext_arr {ts r : List Tk} {a : Str × Nat} (m : List Tk) (h0 : ts ≠ []) (ha : arr ts = some (.ok a r)) : arr (ts ++ m) = some (.ok a (r ++ m)) := by
  unfold arr at ha ⊢
  obtain ⟨s, u1, hn, ha⟩ := bnd_ok ha
  obtain ⟨n1, rfl, rfl⟩ := name_ok hn
  obtain ⟨_, u2, he, ha⟩ := bnd_ok ha
  obtain ⟨e1, e2, rfl⟩ := enter_ok he
  obtain ⟨k, u3, hk, ha⟩ := bnd_ok ha
  obtain ⟨k1, rfl, rfl⟩ := number_ok hk
  obtain ⟨_, u4, hw, ha⟩ := bnd_ok ha
  obtain ⟨w1, rfl⟩ := want_ok hw
  obtain ⟨_, u5, hw2, ha⟩ := bnd_ok ha
  obtain ⟨w2, rfl⟩ := want_ok hw2
  obtain ⟨rfl, rfl⟩ := some_ok ha
  rw [tail_app h0, name_app n1, bnd_o, enter_app e1 e2, bnd_o, number_app k1, bnd_o, want_app w1, bnd_o, want_app w2, bnd_o]
theorem ext_func {n : Nat} {ts r : List Tk} {f : Fn} (m : List Tk) (hg : Good ts) (h0 : ts ≠ []) (h : func n ts = some (.ok f r)) : func n (ts ++ m) = some (.ok f (r ++ m)) := by
  unfold func at h ⊢
  obtain ⟨s, t1, hn, h⟩ := bnd_ok h
  obtain ⟨n1, rfl, rfl⟩ := name_ok hn
  obtain ⟨_, t2, he, h⟩ := bnd_ok h
  obtain ⟨e1, e0, rfl⟩ := enter_ok he
  have g2 := ((hg.suf (suf_tail ts)).suf (suf_tail _)).suf (suf_tail _)
  obtain ⟨p, t3, hp, h⟩ := bnd_ok h
  obtain ⟨_, t4, hw, h⟩ := bnd_ok h
  obtain ⟨w1, rfl⟩ := want_ok hw
  obtain ⟨_, t5, he2, h⟩ := bnd_ok h
  obtain ⟨e2, e3, rfl⟩ := enter_ok he2
  have hprm : prms n (ts.tail.tail.tail ++ m) = some (.ok p (t3 ++ m)) ∧ Good t3 := by
    unfold prms at hp ⊢
    split at hp
    · rename_i hs
      obtain ⟨rfl, rfl⟩ := some_ok hp
      rw [sg_app (sg_has hs), if_pos hs]
      exact ⟨rfl, g2⟩
    · rename_i hs
      obtain ⟨a1, a2, a3, a4⟩ := read_names g2 hp
      rw [sg_app (suf_ne a4 (sg_has w1)), if_neg hs]
      exact ⟨ext_names m g2 (sg_has w1) hp, g2.suf a4⟩
  have g3 := (hprm.2.suf (suf_tail _)).suf (suf_tail _)
  obtain ⟨l, t6, hl, h⟩ := bnd_ok h
  obtain ⟨c1, c2, c3⟩ := read_lcls n _ l t6 g3 hl
  obtain ⟨b, t7, hb, h⟩ := bnd_ok h
  obtain ⟨_, t8, hw2, h⟩ := bnd_ok h
  obtain ⟨w2, rfl⟩ := want_ok hw2
  obtain ⟨rfl, rfl⟩ := some_ok h
  obtain ⟨d1, d2, d3, d4⟩ := (read2 n).2.1 1 t6 b t7 (by omega) (g3.suf c3) hb
  rw [tail_app h0, name_app n1, bnd_o, enter_app e1 e0, bnd_o, hprm.1, bnd_o, want_app w1, bnd_o, enter_app e2 e3, bnd_o, ext_lcls m n _ l t6 g3 (suf_ne d4 (sg_has w2)) hl, bnd_o, (ext2 m n).2.1 1 t6 b t7 (by omega) (g3.suf c3) (sg_has w2) hb, bnd_o, want_app w2, bnd_o]
theorem ext_prog (m : List Tk) (z : Rs Prog) : ∀ n p ts q, Good ts → prog n p ts = some (.ok q []) → Pg q m z → Pg p (ts ++ m) z
  | 0, p, ts, q, _, h, _ => by rw [prog] at h; cases h
  | n + 1, p, ts, q, hg, h, hz => by
    rw [prog] at h
    split at h
    · rename_i h0
      obtain ⟨rfl, _⟩ := some_ok h
      rw [h0, List.nil_append]
      exact hz
    rename_i h0
    have hne : ¬ ts ++ m = [] := fun e => h0 (List.append_eq_nil_iff.1 e).1
    split at h
    · rename_i hs
      obtain ⟨l, t1, hl, h⟩ := bnd_ok h
      obtain ⟨a1, a2, a3, a4⟩ := read_vars hg h0 hl
      have h1 : ∃ n, vars n (ts ++ m) = some (.ok l (t1 ++ m)) := ⟨n, ext_vars m hg h0 hl⟩
      obtain ⟨k, h1, h2⟩ := two_fuel (fun n => mono_vars n _) (fun n => mono_prog n _ _) h1 (ext_prog m z n _ t1 q (hg.suf a4) h hz)
      exact ⟨k + 1, by rw [prog, if_neg hne, sg_app h0, if_pos hs, h1, bnd_o, h2]⟩
    rename_i hs1
    split at h
    · rename_i hs
      obtain ⟨a, t1, ha, h⟩ := bnd_ok h
      have hg1 : Good t1 := by
        have ha' := ha
        unfold arr at ha'
        obtain ⟨s, u1, hn, ha'⟩ := bnd_ok ha'
        obtain ⟨n1, rfl, rfl⟩ := name_ok hn
        obtain ⟨_, u2, he, ha'⟩ := bnd_ok ha'
        obtain ⟨e1, e2, rfl⟩ := enter_ok he
        obtain ⟨k, u3, hk, ha'⟩ := bnd_ok ha'
        obtain ⟨k1, rfl, rfl⟩ := number_ok hk
        obtain ⟨_, u4, hw, ha'⟩ := bnd_ok ha'
        obtain ⟨w1, rfl⟩ := want_ok hw
        obtain ⟨_, u5, hw2, ha'⟩ := bnd_ok ha'
        obtain ⟨w2, rfl⟩ := want_ok hw2
        obtain ⟨_, rfl⟩ := some_ok ha'
        exact (((((hg.suf (suf_tail _)).suf (suf_tail _)).suf (suf_tail _)).suf (suf_tail _)).suf (suf_tail _)).suf (suf_tail _)
      obtain ⟨k, h2⟩ := ext_prog m z n _ t1 q hg1 h hz
      exact ⟨k + 1, by rw [prog, if_neg hne, sg_app h0, if_neg hs1, sg_app h0, if_pos hs, ext_arr m h0 ha, bnd_o, h2]⟩
    rename_i hs2
    split at h
    · rename_i hs
      obtain ⟨f, t1, hf, h⟩ := bnd_ok h
      obtain ⟨a1, a2, a3⟩ := read_func hg h0 hf
      have h1 : ∃ n, func n (ts ++ m) = some (.ok f (t1 ++ m)) := ⟨n, ext_func m hg h0 hf⟩
      obtain ⟨k, h1, h2⟩ := two_fuel (fun n => mono_func n _) (fun n => mono_prog n _ _) h1 (ext_prog m z n _ t1 q (hg.suf a3) h hz)
      exact ⟨k + 1, by rw [prog, if_neg hne, sg_app h0, if_neg hs1, sg_app h0, if_neg hs2, sg_app h0, if_pos hs, h1, bnd_o, h2]⟩
    · cases h
/-- The declarations of both. -/
def Prog.app (a b : Prog) : Prog := ⟨a.vars ++ b.vars, a.arrays ++ b.arrays, a.funcs ++ b.funcs⟩
theorem prog_acc (a : Prog) : ∀ n p ts q r, prog n p ts = some (.ok q r) → prog n (a.app p) ts = some (.ok (a.app q) r)
  | 0, p, ts, q, r, h => by rw [prog] at h; cases h
  | n + 1, p, ts, q, r, h => by
    rw [prog] at h ⊢
    split at h
    · rename_i h0
      obtain ⟨rfl, rfl⟩ := some_ok h
      rw [if_pos h0]
    rename_i h0
    rw [if_neg h0]
    split at h
    · rename_i hs
      rw [if_pos hs]
      obtain ⟨l, t1, hl, h⟩ := bnd_ok h
      have := prog_acc a n _ t1 q r h
      rw [hl, bnd_o, ← this]
      unfold Prog.app
      simp
    rename_i hs
    rw [if_neg hs]
    split at h
    · rename_i hs
      rw [if_pos hs]
      obtain ⟨l, t1, hl, h⟩ := bnd_ok h
      have := prog_acc a n _ t1 q r h
      rw [hl, bnd_o, ← this]
      unfold Prog.app
      simp
    rename_i hs
    rw [if_neg hs]
    split at h
    · rename_i hs
      rw [if_pos hs]
      obtain ⟨l, t1, hl, h⟩ := bnd_ok h
      have := prog_acc a n _ t1 q r h
      rw [hl, bnd_o, ← this]
      unfold Prog.app
      simp
    · cases h
theorem pairs_shf (d : Nat) (l : List Tok) : pairs (l.map (shf d)) = pairs l := by unfold pairs; rw [List.map_map]; rfl
theorem pairs_app (a b : List Tok) : pairs (a ++ b) = pairs a ++ pairs b := List.map_append
/-- ParserConcatenation. -/
theorem parse_cat {a b : Str} (ha : a.length ≤ 1500) (hb : b.length ≤ 1500) {p q : Prog} {n m e f : Nat} (h1 : parse a = (p, n, e)) (h2 : parse b = (q, m, f)) (he : e = 0) (hf : f = 0) : parse (a ++ 10 :: b) = (p.app q, 0, 0) := by
  obtain ⟨u1, u2, u3, u4, k1, u5⟩ := parse_ok h1 he
  obtain ⟨v1, v2, v3, v4, k2, v5⟩ := parse_ok h2 hf
  have hga := good_ans a
  have hgo := good_ans (a ++ 10 :: b)
  have hj := concat a b 1
  obtain ⟨_, x2, x3⟩ := ans_ok u1
  obtain ⟨_, y2, y3⟩ := ans_ok v1
  rw [if_pos x2] at hj
  obtain ⟨s1, s2, s3⟩ := tk_shift (a.count 10 + 1) b 1
  rw [show 1 + (a.count 10 + 1) = 1 + a.count 10 + 1 by omega] at s1 s2 s3
  have hz : ans (a ++ 10 :: b) = ((tk 1 a).1 ++ (tk 1 b).1.map (shf (a.count 10 + 1)), 0, 0) := by
    rw [ans_eq (by rw [List.length_append, List.length_cons]; omega), hj]
    show (if (tk (1 + a.count 10 + 1) b).2.2 = 0 then (((tk 1 a).1 ++ (tk (1 + a.count 10 + 1) b).1, 0, 0) : Res) else _) = _
    rw [if_pos (by rw [s2]; exact y2), s1]
  rw [x3] at u5 hga
  rw [y3] at v5
  rw [hz] at hgo
  have hpr : pairs ((tk 1 a).1 ++ (tk 1 b).1.map (shf (a.count 10 + 1))) = pairs (tk 1 a).1 ++ pairs (tk 1 b).1 := by rw [pairs_app, pairs_shf]
  have hacc := prog_acc p k2 Prog.nil _ q [] v5
  have hpn : p.app Prog.nil = p := by unfold Prog.app Prog.nil; simp
  rw [hpn] at hacc
  obtain ⟨k3, h3⟩ := ext_prog _ _ k1 Prog.nil _ p hga u5 ⟨k2, hacc⟩
  unfold parse
  rw [hz, if_pos rfl]
  unfold parseT
  rw [← hpr] at h3
  rw [parseT_of hgo h3]
end Go.Proofs.YtpbcncfbfbghcaaGreatDoor.L20
namespace Go.Proofs.YtpbcncfbfbghcaaGreatDoor.L20
open Mem L19
set_option linter.unusedVariables false
set_option linter.unusedSimpArgs false

/-- Behind a success or an error, a rest of what was there is left. -/
def Sx {α : Type} (ts : List Tk) (x : Option (Rs α)) : Prop := (∀ a r, x = some (.ok a r) → r <:+ ts) ∧ (∀ e r, x = some (.bad e r) → r <:+ ts)
theorem Sx.bnd {α β : Type} {ts : List Tk} {x : Option (Rs α)} {f : α → List Tk → Option (Rs β)} (h : Sx ts x) (k : ∀ a t, Sx t (f a t)) : Sx ts (bnd x f) := by
  cases x with
  | none => exact ⟨(fun a r e => by cases e), (fun a r e => by cases e)⟩
  | some v =>
    cases v with
    | ok a t => exact ⟨(fun b r e => ((k a t).1 b r e).trans (h.1 a t rfl)), (fun b r e => ((k a t).2 b r e).trans (h.1 a t rfl))⟩
    | bad c t =>
      refine ⟨fun b r e => (by cases e), fun b r e => ?_⟩
      have := h.2 c t rfl
      injection e with e
      injection e with _ e
      rw [← e]; exact this
theorem Sx.ite {α : Type} {c : Prop} [Decidable c] {ts : List Tk} {x y : Option (Rs α)} (h : Sx ts x) (k : Sx ts y) : Sx ts (if c then x else y) := by
  split
  · exact h
  · exact k
theorem Sx.ok {α : Type} (a : α) (ts : List Tk) : Sx ts (some (.ok a ts)) := ⟨(fun b r h => by obtain ⟨_, rfl⟩ := some_ok h; exact List.suffix_refl _), (fun b r h => by injection h with h; cases h)⟩
theorem Sx.bad {α : Type} (c : Nat) (ts : List Tk) : Sx ts (some (.bad c ts) : Option (Rs α)) := ⟨(fun b r h => by injection h with h; cases h), (fun b r h => by
  injection h with h
  injection h with _ h
  rw [← h]; exact List.suffix_refl _)⟩
theorem Sx.tail {α : Type} {ts : List Tk} {x : Option (Rs α)} (h : Sx ts.tail x) : Sx ts x := ⟨fun a r e => (h.1 a r e).trans (suf_tail ts), fun a r e => (h.2 a r e).trans (suf_tail ts)⟩
theorem Sx.none {α : Type} (ts : List Tk) : Sx ts (none : Option (Rs α)) := ⟨(fun b r h => by cases h), (fun b r h => by cases h)⟩
theorem sx_want (s : Str) (ts : List Tk) : Sx ts (some (want s ts)) := by
  unfold want
  split
  · exact Sx.tail (Sx.ok _ _)
  · exact Sx.bad _ _
theorem sx_enter (s : Str) (o : Nat) (ts : List Tk) : Sx ts (some (enter s o ts)) := by
  unfold enter
  split
  · split
    · exact Sx.bad _ _
    · exact Sx.tail (Sx.ok _ _)
  · exact Sx.bad _ _
theorem sx_name (ts : List Tk) : Sx ts (some (name ts)) := by
  unfold name
  split
  · exact Sx.tail (Sx.ok _ _)
  · exact Sx.bad _ _
theorem sx_number (ts : List Tk) : Sx ts (some (number ts)) := by
  unfold number
  split
  · exact Sx.tail (Sx.ok _ _)
  · exact Sx.bad _ _
theorem sx1 : ∀ n, (∀ lvl o ts, Sx ts (expr n lvl o ts)) ∧ (∀ lvl o x ts, Sx ts (loop n lvl o x ts)) ∧ (∀ o ts, Sx ts (unary n o ts)) ∧ (∀ o ts, Sx ts (primary n o ts)) ∧ (∀ o ts, Sx ts (args n o ts)) ∧ (∀ o ts, Sx ts (more n o ts))
  | 0 => ⟨fun _ _ _ => by rw [expr]; exact Sx.none _, fun _ _ _ _ => by rw [loop]; exact Sx.none _, fun _ _ => by rw [unary]; exact Sx.none _, fun _ _ => by rw [primary]; exact Sx.none _, fun _ _ => by rw [args]; exact Sx.none _, fun _ _ => by rw [more]; exact Sx.none _⟩
  | n + 1 => by
    obtain ⟨i1, i2, i3, i4, i5, i6⟩ := sx1 n
    refine ⟨fun lvl o ts => ?_, fun lvl o x ts => ?_, fun o ts => ?_, fun o ts => ?_, fun o ts => ?_, fun o ts => ?_⟩
    · rw [expr]; exact Sx.ite (i3 _ _) (Sx.bnd (i1 _ _ _) fun _ _ => i2 _ _ _ _)
    · rw [loop]; exact Sx.ite (Sx.tail (Sx.bnd (i1 _ _ _) fun _ _ => Sx.ite (Sx.ok _ _) (i2 _ _ _ _))) (Sx.ok _ _)
    · rw [unary]; exact Sx.ite (Sx.ite (Sx.bad _ _) (Sx.tail (Sx.bnd (i3 _ _) fun _ _ => Sx.ok _ _))) (i4 _ _)
    · rw [primary]
      exact Sx.ite (Sx.tail (Sx.ok _ _)) (Sx.ite (Sx.bnd (sx_enter _ _ _) fun _ _ => Sx.bnd (i1 _ _ _) fun _ _ => Sx.bnd (sx_want _ _) fun _ _ => Sx.ok _ _)
        (Sx.bnd (sx_name _) fun _ _ => Sx.ite (Sx.bnd (i5 _ _) fun _ _ => Sx.ok _ _) (Sx.ite (Sx.bnd (sx_enter _ _ _) fun _ _ => Sx.bnd (i1 _ _ _) fun _ _ => Sx.bnd (sx_want _ _) fun _ _ => Sx.ok _ _) (Sx.ok _ _))))
    · rw [args]
      exact Sx.bnd (sx_enter _ _ _) fun _ _ => Sx.ite (Sx.tail (Sx.ok _ _)) (Sx.bnd (i1 _ _ _) fun _ _ => Sx.bnd (i6 _ _) fun _ _ => Sx.bnd (sx_want _ _) fun _ _ => Sx.ok _ _)
    · rw [more]
      exact Sx.ite (Sx.tail (Sx.bnd (i1 _ _ _) fun _ _ => Sx.bnd (i6 _ _) fun _ _ => Sx.ok _ _)) (Sx.ok _ _)
theorem sx2 : ∀ n, (∀ o ts, Sx ts (stm n o ts)) ∧ (∀ o ts, Sx ts (stms n o ts)) ∧ (∀ o ts, Sx ts (block n o ts))
  | 0 => ⟨fun _ _ => by rw [stm]; exact Sx.none _, fun _ _ => by rw [stms]; exact Sx.none _, fun _ _ => by rw [block]; exact Sx.none _⟩
  | n + 1 => by
    obtain ⟨i1, i2, i3⟩ := sx2 n
    obtain ⟨e1, _, _, _, e5, _⟩ := sx1 n
    refine ⟨fun o ts => ?_, fun o ts => ?_, fun o ts => ?_⟩
    · rw [stm]
      exact Sx.ite (Sx.tail (Sx.bnd (e1 _ _ _) fun _ _ => Sx.bnd (i3 _ _) fun _ _ => Sx.ite (Sx.tail (Sx.bnd (i3 _ _) fun _ _ => Sx.ok _ _)) (Sx.ok _ _)))
        (Sx.ite (Sx.tail (Sx.bnd (e1 _ _ _) fun _ _ => Sx.bnd (i3 _ _) fun _ _ => Sx.ok _ _))
        (Sx.ite (Sx.tail (Sx.bnd (e1 _ _ _) fun _ _ => Sx.bnd (sx_want _ _) fun _ _ => Sx.ok _ _)) (Sx.ite (Sx.tail (Sx.bnd (sx_want _ _) fun _ _ => Sx.ok _ _)) (Sx.bnd (sx_name _) fun _ _ => Sx.ite (Sx.bnd (e5 _ _) fun _ _ => Sx.bnd (sx_want _ _) fun _ _ => Sx.ok _ _)
          (Sx.ite (Sx.bnd (sx_enter _ _ _) fun _ _ => Sx.bnd (e1 _ _ _) fun _ _ => Sx.bnd (sx_want _ _) fun _ _ => Sx.bnd (sx_want _ _) fun _ _ => Sx.bnd (e1 _ _ _) fun _ _ => Sx.bnd (sx_want _ _) fun _ _ => Sx.ok _ _)
            (Sx.bnd (sx_want _ _) fun _ _ => Sx.bnd (e1 _ _ _) fun _ _ => Sx.bnd (sx_want _ _) fun _ _ => Sx.ok _ _))))))
    · rw [stms]; exact Sx.ite (Sx.ok _ _) (Sx.bnd (i1 _ _) fun _ _ => Sx.bnd (i2 _ _) fun _ _ => Sx.ok _ _)
    · rw [block]; exact Sx.bnd (sx_enter _ _ _) fun _ _ => Sx.bnd (i2 _ _) fun _ _ => Sx.bnd (sx_want _ _) fun _ _ => Sx.ok _ _
theorem sx_nm : ∀ n ts, Sx ts (nmore n ts)
  | 0, _ => by rw [nmore]; exact Sx.none _
  | n + 1, ts => by rw [nmore]; exact Sx.ite (Sx.tail (Sx.bnd (sx_name _) fun _ _ => Sx.bnd (sx_nm n _) fun _ _ => Sx.ok _ _)) (Sx.ok _ _)
theorem sx_names (n : Nat) (ts : List Tk) : Sx ts (names n ts) := Sx.bnd (sx_name _) fun _ _ => Sx.bnd (sx_nm n _) fun _ _ => Sx.ok _ _
theorem sx_vars (n : Nat) (ts : List Tk) : Sx ts (vars n ts) := Sx.tail (Sx.bnd (sx_names n _) fun _ _ => Sx.bnd (sx_want _ _) fun _ _ => Sx.ok _ _)
theorem sx_lcls : ∀ n ts, Sx ts (lcls n ts)
  | 0, _ => by rw [lcls]; exact Sx.none _
  | n + 1, ts => by rw [lcls]; exact Sx.ite (Sx.bnd (sx_vars n _) fun _ _ => Sx.bnd (sx_lcls n _) fun _ _ => Sx.ok _ _) (Sx.ok _ _)
theorem sx_arr (ts : List Tk) : Sx ts (arr ts) := Sx.tail (Sx.bnd (sx_name _) fun _ _ => Sx.bnd (sx_enter _ _ _) fun _ _ => Sx.bnd (sx_number _) fun _ _ => Sx.bnd (sx_want _ _) fun _ _ => Sx.bnd (sx_want _ _) fun _ _ => Sx.ok _ _)
theorem sx_func (n : Nat) (ts : List Tk) : Sx ts (func n ts) := Sx.tail (Sx.bnd (sx_name _) fun _ _ => Sx.bnd (sx_enter _ _ _) fun _ _ => Sx.bnd (Sx.ite (Sx.ok _ _) (sx_names n _)) fun _ _ => Sx.bnd (sx_want _ _) fun _ _ => Sx.bnd (sx_enter _ _ _) fun _ _ => Sx.bnd (sx_lcls n _) fun _ _ => Sx.bnd ((sx2 n).2.1 _ _) fun _ _ => Sx.bnd (sx_want _ _) fun _ _ => Sx.ok _ _)

/-! ### Places -/
/-- What is left at a place. -/
def at_ (l : List Tok) (k : Nat) : List Tk := (pairs l).drop k
theorem at_len (l : List Tok) {k : Nat} (h : k ≤ l.length) : (at_ l k).length = l.length - k := by unfold at_ pairs; rw [List.length_drop, List.length_map]
theorem at_tail (l : List Tok) (k : Nat) : (at_ l k).tail = at_ l (k + 1) := by unfold at_; rw [List.tail_drop]
theorem at_cons {l : List Tok} {k : Nat} {a : Nat} {T : Str} {z : Nat} (h : l[k]? = some (a, T, z)) : at_ l k = (a, T) :: at_ l (k + 1) := by
  obtain ⟨hk, e⟩ := List.getElem?_eq_some_iff.1 h
  have hk2 : k < (pairs l).length := by unfold pairs; rw [List.length_map]; exact hk
  unfold at_
  rw [← List.getElem_cons_drop hk2]
  have : (pairs l)[k]? = some (a, T) := by
    show (l.map fun t => (t.1, t.2.1))[k]? = _
    rw [List.getElem?_map, h]
    rfl
  rw [List.getElem?_eq_getElem hk2] at this
  injection this with this
  rw [this]
theorem at_end {l : List Tok} {k : Nat} (h : l.length ≤ k) : at_ l k = [] := by unfold at_; exact List.drop_of_length_le (by unfold pairs; rw [List.length_map]; exact h)
/-- A rest of what is left at a place is what is left at a later place. -/
theorem suf_at {l : List Tok} {k : Nat} (hk : k ≤ l.length) {r : List Tk} (h : r <:+ at_ l k) : ∃ j, k ≤ j ∧ j ≤ l.length ∧ r = at_ l j ∧ r.length = l.length - j := by
  obtain ⟨q, hq⟩ := h
  have h1 : q.length ≤ (at_ l k).length := by rw [← hq, List.length_append]; omega
  rw [at_len l hk] at h1
  have h2 : r = at_ l (k + q.length) := by
    have := congrArg (List.drop q.length) hq
    rw [List.drop_left' rfl] at this
    rw [this]
    unfold at_
    rw [List.drop_drop]
  exact ⟨k + q.length, by omega, by omega, h2, by rw [h2, at_len l (by omega)]⟩
theorem lineAt_at {l : List Tok} {k : Nat} (h : k ≤ l.length) : lineAt l (l.length - k) = match l[k]? with
    | some t => t.2.2
    | none => (l.getLast?.map (·.2.2)).getD 0 := by
  unfold lineAt
  rw [show l.length - (l.length - k) = k by omega]
  cases e : l[k]? with
  | none =>
    have : l.length ≤ k := List.getElem?_eq_none_iff.1 e
    rw [List.drop_of_length_le this]
  | some t =>
    obtain ⟨hk, rfl⟩ := List.getElem?_eq_some_iff.1 e
    rw [← List.getElem_cons_drop hk]
end Go.Proofs.YtpbcncfbfbghcaaGreatDoor.L20
namespace Go.Proofs.YtpbcncfbfbghcaaGreatDoor.L20
open Go.RowKit Mem L19
set_option linter.unusedVariables false
set_option linter.unusedSimpArgs false

/-! ### A row of structs; its block satisfies F -/
def RdF (w : World) (F : Nat → Prop) (A : Option Addr) (vs : List Value) : Prop := ∀ j (h : j < vs.length), ∃ b o : Nat, A = some ⟨b, o, none⟩ ∧ F b ∧ b < w.heap.size ∧ w.cell? ⟨b, o + j, none⟩ = some vs[j]
structure RowA (w : World) (F : Nat → Prop) (s n : Nat) (A : Option Addr) (cap : Nat) (css : List (List Value)) : Prop where
  len : css.length = n
  each : ∀ c ∈ css, c.length = s
  le : n ≤ cap
  capm : cap ≤ maxLen
  nil : A = none → cap = 0
  rd : RdF w F A css.flatten
theorem flatten_get {s : Nat} : ∀ (css : List (List Value)), (∀ c ∈ css, c.length = s) → ∀ (i j : Nat) (hi : i < css.length), j < s → css.flatten[i * s + j]? = css[i][j]?
  | [], _, i, j, hi, _ => by simp at hi
  | c :: r, h, 0, j, _, hj => by
    rw [List.flatten_cons, Nat.zero_mul, Nat.zero_add, List.getElem?_append_left (by rw [h c List.mem_cons_self]; exact hj)]
    rfl
  | c :: r, h, i + 1, j, hi, hj => by
    have ih := flatten_get r (fun x hx => h x (List.mem_cons_of_mem _ hx)) i j (by simpa using hi) hj
    have hc := h c List.mem_cons_self
    rw [List.flatten_cons, List.getElem?_append_right (by rw [hc, Nat.succ_mul]; omega), hc, show (i + 1) * s + j - s = i * s + j by rw [Nat.succ_mul]; omega, ih]
    rfl
theorem flatten_len {s : Nat} : ∀ (css : List (List Value)), (∀ c ∈ css, c.length = s) → css.flatten.length = css.length * s
  | [], _ => by simp
  | c :: r, h => by
    rw [List.flatten_cons, List.length_append, h c List.mem_cons_self, flatten_len r (fun x hx => h x (List.mem_cons_of_mem _ hx)), List.length_cons, Nat.succ_mul]
    omega
/-- One struct of a row. -/
theorem RowA.at {w : World} {F : Nat → Prop} {s n cap : Nat} {A : Option Addr} {css : List (List Value)} (h : RowA w F s n A cap css) (hs : 0 < s) {i : Nat} (hi : i < n) :
    ∃ b o : Nat, ∃ c : List Value, css[i]? = some c ∧ c.length = s ∧ A = some ⟨b, o, none⟩ ∧ F b ∧ b < w.heap.size ∧ ∀ (j : Nat) (u : Value), c[j]? = some u → w.cell? ⟨b, o + (i * s + j), none⟩ = some u := by
  have hl : i < css.length := by rw [h.len]; exact hi
  have hlen := flatten_len css h.each
  have hlt : ∀ j, j < s → i * s + j < css.flatten.length := fun j hj => by
    rw [hlen]
    have : (i + 1) * s ≤ css.length * s := Nat.mul_le_mul_right s hl
    rw [Nat.succ_mul] at this
    omega
  obtain ⟨b, o, e, hF, hb, _⟩ := h.rd (i * s + 0) (hlt 0 hs)
  have hcl : css[i].length = s := h.each _ (List.getElem_mem hl)
  refine ⟨b, o, css[i], List.getElem?_eq_getElem hl, hcl, e, hF, hb, fun j u hu => ?_⟩
  have hj : j < s := by
    have := (List.getElem?_eq_some_iff.1 hu).1
    rw [hcl] at this
    exact this
  obtain ⟨b', o', e', _, _, hc⟩ := h.rd (i * s + j) (hlt j hj)
  rw [e] at e'
  injection e' with e'
  injection e' with e1 e2
  subst e1 e2
  rw [hc]
  have := flatten_get css h.each i j hl hj
  rw [List.getElem?_eq_getElem (hlt j hj), hu] at this
  exact this
/-- What leaves the blocks of F alone. -/
def Kept (F : Nat → Prop) (w w1 : World) : Prop := w.heap.size ≤ w1.heap.size ∧ ∀ b, F b → b < w.heap.size → w1.heap[b]? = w.heap[b]?
theorem Kept.cell {F : Nat → Prop} {w w1 : World} (k : Kept F w w1) {b o : Nat} (hF : F b) (hb : b < w.heap.size) : w1.cell? ⟨b, o, none⟩ = w.cell? ⟨b, o, none⟩ := by
  simp [World.cell?, k.2 b hF hb]
theorem Kept.of_below {F : Nat → Prop} {w w1 : World} (k : Below w.heap.size w w1) : Kept F w w1 := ⟨k.size, fun b _ hb => k.block b hb⟩
theorem Kept.refl (F : Nat → Prop) (w : World) : Kept F w w := ⟨Nat.le_refl _, fun _ _ _ => rfl⟩
theorem Kept.trans {F : Nat → Prop} {a b c : World} (h : Kept F a b) (k : Kept F b c) : Kept F a c := ⟨Nat.le_trans h.1 k.1, fun x hx hl => (k.2 x hx (Nat.lt_of_lt_of_le hl h.1)).trans (h.2 x hx hl)⟩
theorem Kept.mono {F G : Nat → Prop} {a b : World} (h : Kept G a b) (k : ∀ x, F x → G x) : Kept F a b := ⟨h.1, fun x hx hl => h.2 x (k x hx) hl⟩
theorem RdF.keep {w w1 : World} {F : Nat → Prop} {A : Option Addr} {vs : List Value} (h : RdF w F A vs) (k : Kept F w w1) : RdF w1 F A vs := fun j hj => by
  obtain ⟨b, o, e, hF, hb, hc⟩ := h j hj
  exact ⟨b, o, e, hF, Nat.lt_of_lt_of_le hb k.1, (k.cell hF hb).trans hc⟩
theorem RdF.mono {w : World} {F G : Nat → Prop} {A : Option Addr} {vs : List Value} (h : RdF w F A vs) (k : ∀ b, b < w.heap.size → F b → G b) : RdF w G A vs := fun j hj => by
  obtain ⟨b, o, e, hF, hb, hc⟩ := h j hj
  exact ⟨b, o, e, k b hb hF, hb, hc⟩
theorem RowA.keep {w w1 : World} {F : Nat → Prop} {s n cap : Nat} {A : Option Addr} {css : List (List Value)} (h : RowA w F s n A cap css) (k : Kept F w w1) : RowA w1 F s n A cap css := ⟨h.len, h.each, h.le, h.capm, h.nil, h.rd.keep k⟩
theorem RowA.mono {w : World} {F G : Nat → Prop} {s n cap : Nat} {A : Option Addr} {css : List (List Value)} (h : RowA w F s n A cap css) (k : ∀ b, b < w.heap.size → F b → G b) : RowA w G s n A cap css := ⟨h.len, h.each, h.le, h.capm, h.nil, h.rd.mono k⟩
theorem RowA.empty (w : World) (F : Nat → Prop) (s : Nat) : RowA w F s 0 none 0 [] := ⟨rfl, by simp, Nat.le_refl _, by decide, fun _ => rfl, fun j hj => by simp at hj⟩
/-- A row of the call's own, read. -/
theorem RowA.of_own {w : World} {base s n : Nat} {e : TypeId} {v : Value} {css : List (List Value)} (h : w.ownsRow base e s v n css.flatten) (hs : 0 < s) (hn : css.length = n) (he : ∀ c ∈ css, c.length = s) :
    ∃ A cap, v = .slice A n cap ∧ RowA w (fun b => base ≤ b) s n A cap css := by
  have hl := h.1
  rcases h.2 with ⟨hv, h0⟩ | ⟨g, cap, cur, hv, hb, hg, hn2, hm, _⟩
  · subst hv
    subst h0
    have : css = [] := List.eq_nil_of_length_eq_zero hn
    subst this
    exact ⟨none, 0, rfl, RowA.empty w _ s⟩
  · subst hv
    refine ⟨_, cap, rfl, hn, he, hn2, hm, (fun e => by cases e), fun j hj => ?_⟩
    have hj2 : j < n * s := by rw [flatten_len css he, hn] at hj; exact hj
    exact ⟨g, 0, rfl, hb, (h.lt g rfl).2, by rw [Nat.zero_add, h.cellAt j hj2, List.getElem?_eq_getElem hj]⟩
/-- Literal cells in a new block. -/
theorem RowA.lit {w : World} {s : Nat} {css : List (List Value)} {T : TypeId} (he : ∀ c ∈ css, c.length = s) (hm : css.length ≤ maxLen) : RowA (w.alloc (.cells css.flatten.toArray T)) (fun b => w.heap.size ≤ b) s css.length (some ⟨w.heap.size, 0, none⟩) css.length css :=
  ⟨rfl, he, Nat.le_refl _, hm, (fun e => by cases e), fun j hj => ⟨w.heap.size, 0, rfl, Nat.le_refl _, by rw [World.size_alloc]; omega, by
    rw [Nat.zero_add, World.cell?_alloc_new]
    simp [List.getElem?_eq_getElem hj]⟩⟩

/-! ### Expressions -/
def eNum : Str := [110, 117, 109]
def eVar : Str := [118, 97, 114]
def eElem : Str := [101, 108, 101, 109]
def eCall : Str := [99, 97, 108, 108]
def eNeg : Str := [110, 101, 103]
def eNot : Str := [110, 111, 116]
def Exp.opS : Exp → Str
  | .num _ => eNum
  | .var _ => eVar
  | .elem _ _ => eElem
  | .call _ _ => eCall
  | .un op _ => if op = [45] then eNeg else eNot
  | .bin op _ _ => op
def Exp.numI : Exp → Nat
  | .num n => n
  | _ => 0
def Exp.nam : Exp → Str
  | .var s => s
  | .elem s _ => s
  | .call s _ => s
  | _ => []
def Exp.kids : Exp → List Exp
  | .elem _ i => [i]
  | .call _ l => l
  | .un _ x => [x]
  | .bin _ x y => [x, y]
  | _ => []
/-- The four cells of an expression. -/
def eCells (x : Exp) (A : Option Addr) (cap : Nat) : List Value := [strV x.opS, .int .u32 (x.numI : Int), strV x.nam, .slice A x.kids.length cap]
inductive ExC (w : World) (F : Nat → Prop) : Exp → List Value → Prop
  | mk (x : Exp) (A : Option Addr) (cap : Nat) (css : List (List Value)) : RowA w F 4 x.kids.length A cap css → (∀ (i : Nat) (y : Exp) (c : List Value), x.kids[i]? = some y → css[i]? = some c → ExC w F y c) → ExC w F x (eCells x A cap)
theorem ExC.keep {w w1 : World} {F : Nat → Prop} {x : Exp} {c : List Value} (h : ExC w F x c) (k : Kept F w w1) : ExC w1 F x c := by
  induction h with
  | mk x A cap css h1 _ ih => exact .mk x A cap css (h1.keep k) ih
theorem ExC.mono {w : World} {F G : Nat → Prop} {x : Exp} {c : List Value} (h : ExC w F x c) (k : ∀ b, b < w.heap.size → F b → G b) : ExC w G x c := by
  induction h with
  | mk x A cap css h1 _ ih => exact .mk x A cap css (h1.mono k) ih
theorem ExC.len {w : World} {F : Nat → Prop} {x : Exp} {c : List Value} (h : ExC w F x c) : c.length = 4 := by
  cases h; rfl
/-- A slice of expressions. -/
structure Exs (w : World) (F : Nat → Prop) (l : List Exp) (A : Option Addr) (cap : Nat) : Prop where
  row : ∃ css, RowA w F 4 l.length A cap css ∧ ∀ (i : Nat) (y : Exp) (c : List Value), l[i]? = some y → css[i]? = some c → ExC w F y c
theorem Exs.keep {w w1 : World} {F : Nat → Prop} {l : List Exp} {A : Option Addr} {cap : Nat} (h : Exs w F l A cap) (k : Kept F w w1) : Exs w1 F l A cap := by
  obtain ⟨css, h1, h2⟩ := h.row
  exact ⟨css, h1.keep k, fun i y c hy hc => (h2 i y c hy hc).keep k⟩
theorem Exs.mono {w : World} {F G : Nat → Prop} {l : List Exp} {A : Option Addr} {cap : Nat} (h : Exs w F l A cap) (k : ∀ b, b < w.heap.size → F b → G b) : Exs w G l A cap := by
  obtain ⟨css, h1, h2⟩ := h.row
  exact ⟨css, h1.mono k, fun i y c hy hc => (h2 i y c hy hc).mono k⟩
theorem ExC.of {w : World} {F : Nat → Prop} {x : Exp} {A : Option Addr} {cap : Nat} (h : Exs w F x.kids A cap) : ExC w F x (eCells x A cap) := by
  obtain ⟨css, h1, h2⟩ := h.row
  exact .mk x A cap css h1 h2
theorem ExC.inv {w : World} {F : Nat → Prop} {x : Exp} {c : List Value} (h : ExC w F x c) : ∃ A cap, c = eCells x A cap ∧ Exs w F x.kids A cap := by
  cases h with
  | mk _ A cap css h1 h2 => exact ⟨A, cap, rfl, ⟨css, h1, h2⟩⟩
theorem Exs.nil (w : World) (F : Nat → Prop) : Exs w F [] none 0 := ⟨[], RowA.empty w F 4, fun i y c hy => by simp at hy⟩
/-- Trees of one's own and others, in a row that is read. -/
theorem Exs.at {w : World} {F : Nat → Prop} {l : List Exp} {A : Option Addr} {cap : Nat} (h : Exs w F l A cap) {i : Nat} {x : Exp} (hx : l[i]? = some x) :
    ∃ b o A' cap', A = some ⟨b, o, none⟩ ∧ F b ∧ b < w.heap.size ∧ Exs w F x.kids A' cap' ∧ w.cell? ⟨b, o + i * 4, none⟩ = some (strV x.opS) ∧ w.cell? ⟨b, o + i * 4 + 1, none⟩ = some (.int .u32 (x.numI : Int)) ∧ w.cell? ⟨b, o + i * 4 + 2, none⟩ = some (strV x.nam) ∧ w.cell? ⟨b, o + i * 4 + 3, none⟩ = some (.slice A' x.kids.length cap') := by
  obtain ⟨css, h1, h2⟩ := h.row
  have hi : i < l.length := (List.getElem?_eq_some_iff.1 hx).1
  obtain ⟨b, o, c, hc, _, hA, hF, hb, hcell⟩ := h1.at (by decide) hi
  obtain ⟨A', cap', rfl, hk⟩ := (h2 i x c hx hc).inv
  exact ⟨b, o, A', cap', hA, hF, hb, hk, hcell 0 _ rfl, hcell 1 _ rfl, hcell 2 _ rfl, hcell 3 _ rfl⟩
theorem Exs.le {w : World} {F : Nat → Prop} {l : List Exp} {A : Option Addr} {cap : Nat} (h : Exs w F l A cap) : l.length ≤ cap ∧ cap ≤ maxLen := by
  obtain ⟨css, h1, _⟩ := h.row
  exact ⟨h1.le, h1.capm⟩

/-! ### Statements -/
def Sta.kind : Sta → Nat
  | .asg _ _ => 1
  | .sto _ _ _ => 2
  | .ifs _ _ _ => 3
  | .whl _ _ => 4
  | .ret _ => 5
  | .cal _ _ => 6
  | .hlt => 7
def Sta.nam : Sta → Str
  | .asg s _ => s
  | .sto s _ _ => s
  | _ => []
def Sta.idx : Sta → List Exp
  | .sto _ i _ => [i]
  | _ => []
def Sta.val : Sta → List Exp
  | .asg _ x => [x]
  | .sto _ _ x => [x]
  | .ifs x _ _ => [x]
  | .whl x _ => [x]
  | .ret x => [x]
  | .cal s l => [.call s l]
  | .hlt => []
def Sta.thn : Sta → List Sta
  | .ifs _ a _ => a
  | .whl _ a => a
  | _ => []
def Sta.els : Sta → List Sta
  | .ifs _ _ b => b
  | _ => []
/-- The six cells of a statement. -/
def sCells (s : Sta) (I V T E : Option Addr) (ci cv ct ce : Nat) : List Value := [.int .i64 (s.kind : Int), strV s.nam, .slice I s.idx.length ci, .slice V s.val.length cv, .slice T s.thn.length ct, .slice E s.els.length ce]
inductive StC (w : World) (F : Nat → Prop) : Sta → List Value → Prop
  | mk (s : Sta) (I V T E : Option Addr) (ci cv ct ce : Nat) (ts es : List (List Value)) : Exs w F s.idx I ci → Exs w F s.val V cv → RowA w F 6 s.thn.length T ct ts → RowA w F 6 s.els.length E ce es →
      (∀ (i : Nat) (y : Sta) (c : List Value), s.thn[i]? = some y → ts[i]? = some c → StC w F y c) → (∀ (i : Nat) (y : Sta) (c : List Value), s.els[i]? = some y → es[i]? = some c → StC w F y c) → StC w F s (sCells s I V T E ci cv ct ce)
theorem StC.keep {w w1 : World} {F : Nat → Prop} {x : Sta} {c : List Value} (h : StC w F x c) (k : Kept F w w1) : StC w1 F x c := by
  induction h with
  | mk s I V T E ci cv ct ce ts es h1 h2 h3 h4 _ _ ih1 ih2 => exact .mk s I V T E ci cv ct ce ts es (h1.keep k) (h2.keep k) (h3.keep k) (h4.keep k) ih1 ih2
theorem StC.mono {w : World} {F G : Nat → Prop} {x : Sta} {c : List Value} (h : StC w F x c) (k : ∀ b, b < w.heap.size → F b → G b) : StC w G x c := by
  induction h with
  | mk s I V T E ci cv ct ce ts es h1 h2 h3 h4 _ _ ih1 ih2 => exact .mk s I V T E ci cv ct ce ts es (h1.mono k) (h2.mono k) (h3.mono k) (h4.mono k) ih1 ih2
structure Sts (w : World) (F : Nat → Prop) (l : List Sta) (A : Option Addr) (cap : Nat) : Prop where
  row : ∃ css, RowA w F 6 l.length A cap css ∧ ∀ (i : Nat) (y : Sta) (c : List Value), l[i]? = some y → css[i]? = some c → StC w F y c
theorem Sts.keep {w w1 : World} {F : Nat → Prop} {l : List Sta} {A : Option Addr} {cap : Nat} (h : Sts w F l A cap) (k : Kept F w w1) : Sts w1 F l A cap := by
  obtain ⟨css, h1, h2⟩ := h.row
  exact ⟨css, h1.keep k, fun i y c hy hc => (h2 i y c hy hc).keep k⟩
theorem Sts.mono {w : World} {F G : Nat → Prop} {l : List Sta} {A : Option Addr} {cap : Nat} (h : Sts w F l A cap) (k : ∀ b, b < w.heap.size → F b → G b) : Sts w G l A cap := by
  obtain ⟨css, h1, h2⟩ := h.row
  exact ⟨css, h1.mono k, fun i y c hy hc => (h2 i y c hy hc).mono k⟩
theorem StC.of {w : World} {F : Nat → Prop} {s : Sta} {I V T E : Option Addr} {ci cv ct ce : Nat} (h1 : Exs w F s.idx I ci) (h2 : Exs w F s.val V cv) (h3 : Sts w F s.thn T ct) (h4 : Sts w F s.els E ce) : StC w F s (sCells s I V T E ci cv ct ce) := by
  obtain ⟨ts, h3, k3⟩ := h3.row
  obtain ⟨es, h4, k4⟩ := h4.row
  exact .mk s I V T E ci cv ct ce ts es h1 h2 h3 h4 k3 k4
theorem StC.inv {w : World} {F : Nat → Prop} {s : Sta} {c : List Value} (h : StC w F s c) : ∃ I V T E ci cv ct ce, c = sCells s I V T E ci cv ct ce ∧ Exs w F s.idx I ci ∧ Exs w F s.val V cv ∧ Sts w F s.thn T ct ∧ Sts w F s.els E ce := by
  cases h with
  | mk _ I V T E ci cv ct ce ts es h1 h2 h3 h4 h5 h6 => exact ⟨I, V, T, E, ci, cv, ct, ce, rfl, h1, h2, ⟨ts, h3, h5⟩, ⟨es, h4, h6⟩⟩
theorem StC.len {w : World} {F : Nat → Prop} {x : Sta} {c : List Value} (h : StC w F x c) : c.length = 6 := by cases h; rfl
theorem Sts.nil (w : World) (F : Nat → Prop) : Sts w F [] none 0 := ⟨[], RowA.empty w F 6, fun i y c hy => by simp at hy⟩
theorem Sts.at {w : World} {F : Nat → Prop} {l : List Sta} {A : Option Addr} {cap : Nat} (h : Sts w F l A cap) {i : Nat} {s : Sta} (hs : l[i]? = some s) :
    ∃ b o I V T E ci cv ct ce, A = some ⟨b, o, none⟩ ∧ F b ∧ b < w.heap.size ∧ Exs w F s.idx I ci ∧ Exs w F s.val V cv ∧ Sts w F s.thn T ct ∧ Sts w F s.els E ce ∧ ∀ (j : Nat) (u : Value), (sCells s I V T E ci cv ct ce)[j]? = some u → w.cell? ⟨b, o + (i * 6 + j), none⟩ = some u := by
  obtain ⟨css, h1, h2⟩ := h.row
  have hi : i < l.length := (List.getElem?_eq_some_iff.1 hs).1
  obtain ⟨b, o, c, hc, _, hA, hF, hb, hcell⟩ := h1.at (by decide) hi
  obtain ⟨I, V, T, E, ci, cv, ct, ce, rfl, k1, k2, k3, k4⟩ := (h2 i s c hs hc).inv
  exact ⟨b, o, I, V, T, E, ci, cv, ct, ce, hA, hF, hb, k1, k2, k3, k4, hcell⟩
theorem Sts.le {w : World} {F : Nat → Prop} {l : List Sta} {A : Option Addr} {cap : Nat} (h : Sts w F l A cap) : l.length ≤ cap ∧ cap ≤ maxLen := by
  obtain ⟨css, h1, _⟩ := h.row
  exact ⟨h1.le, h1.capm⟩

/-! ### Equal fields, equal trees -/
theorem opS_inj {x y : Exp} (hx : Wf x) (hy : Wf y) (h1 : x.opS = y.opS) (h2 : x.numI = y.numI) (h3 : x.nam = y.nam) (h4 : x.kids = y.kids) : x = y := by
  have hlev : lev eNum = 0 ∧ lev eVar = 0 ∧ lev eElem = 0 ∧ lev eCall = 0 ∧ lev eNeg = 0 ∧ lev eNot = 0 := by decide
  have hun : ∀ op : Str, (Exp.un op (.num 0)).opS = eNeg ∨ (Exp.un op (.num 0)).opS = eNot := fun op => by
    show (if op = [45] then eNeg else eNot) = _ ∨ (if op = [45] then eNeg else eNot) = _
    split
    · exact .inl rfl
    · exact .inr rfl
  cases x <;> cases y
  all_goals try simp only [Exp.opS, Exp.numI, Exp.nam, Exp.kids] at h1 h2 h3 h4
  all_goals try (exfalso; revert h1; decide)
  all_goals try (rw [Wf] at hx)
  all_goals try (rw [Wf] at hy)
  case num.num => rw [h2]
  case var.var => rw [h3]
  case elem.elem => injection h4 with h4; rw [h3, h4]
  case call.call => rw [h3, h4]
  case un.un =>
    injection h4 with h4
    subst h4
    rcases hx.1 with rfl | rfl <;> rcases hy.1 with rfl | rfl
    · rfl
    · exact absurd h1 (by decide)
    · exact absurd h1 (by decide)
    · rfl
  case bin.bin =>
    injection h4 with h4 h5
    injection h5 with h5
    rw [h1, h4, h5]
  case num.un => exfalso; revert h1; split <;> decide
  case var.un => exfalso; revert h1; split <;> decide
  case elem.un => exfalso; revert h1; split <;> decide
  case call.un => exfalso; revert h1; split <;> decide
  case un.num => exfalso; revert h1; split <;> decide
  case un.var => exfalso; revert h1; split <;> decide
  case un.elem => exfalso; revert h1; split <;> decide
  case un.call => exfalso; revert h1; split <;> decide
  case num.bin => rw [← h1] at hy; exact absurd hy.1 (by decide)
  case var.bin => rw [← h1] at hy; exact absurd hy.1 (by decide)
  case elem.bin => rw [← h1] at hy; exact absurd hy.1 (by decide)
  case call.bin => rw [← h1] at hy; exact absurd hy.1 (by decide)
  case bin.num => rw [h1] at hx; exact absurd hx.1 (by decide)
  case bin.var => rw [h1] at hx; exact absurd hx.1 (by decide)
  case bin.elem => rw [h1] at hx; exact absurd hx.1 (by decide)
  case bin.call => rw [h1] at hx; exact absurd hx.1 (by decide)
  case un.bin => rw [← h1] at hy; revert hy; split <;> (intro hy; exact absurd hy.1 (by decide))
  case bin.un => rw [h1] at hx; revert hx; split <;> (intro hx; exact absurd hx.1 (by decide))
theorem sta_inj {x y : Sta} (h1 : x.kind = y.kind) (h2 : x.nam = y.nam) (h3 : x.idx = y.idx) (h4 : x.val = y.val) (h5 : x.thn = y.thn) (h6 : x.els = y.els) : x = y := by
  cases x <;> cases y
  all_goals try simp only [Sta.kind, Sta.nam, Sta.idx, Sta.val, Sta.thn, Sta.els] at h1 h2 h3 h4 h5 h6
  all_goals try (exfalso; revert h1; decide)
  all_goals try simp only [List.cons.injEq, and_true, Exp.call.injEq] at h3 h4
  all_goals simp_all
end Go.Proofs.YtpbcncfbfbghcaaGreatDoor.L20
namespace Go.Proofs.YtpbcncfbfbghcaaGreatDoor.L20
open Go.RowKit Mem L19
set_option linter.unusedVariables false
set_option linter.unusedSimpArgs false

/-- A slice of strings. -/
def StrsF (w : World) (F : Nat → Prop) (l : List Str) (A : Option Addr) (cap : Nat) : Prop := RowA w F 1 l.length A cap (l.map fun s => [strV s])
theorem StrsF.keep {w w1 : World} {F : Nat → Prop} {l : List Str} {A : Option Addr} {cap : Nat} (h : StrsF w F l A cap) (k : Kept F w w1) : StrsF w1 F l A cap := RowA.keep h k
theorem StrsF.mono {w : World} {F G : Nat → Prop} {l : List Str} {A : Option Addr} {cap : Nat} (h : StrsF w F l A cap) (k : ∀ b, b < w.heap.size → F b → G b) : StrsF w G l A cap := RowA.mono h k
theorem StrsF.nil (w : World) (F : Nat → Prop) : StrsF w F [] none 0 := RowA.empty w F 1
theorem StrsF.at {w : World} {F : Nat → Prop} {l : List Str} {A : Option Addr} {cap : Nat} (h : StrsF w F l A cap) {i : Nat} {s : Str} (hs : l[i]? = some s) : ∃ b o, A = some ⟨b, o, none⟩ ∧ F b ∧ b < w.heap.size ∧ w.cell? ⟨b, o + i, none⟩ = some (strV s) := by
  have hi : i < l.length := (List.getElem?_eq_some_iff.1 hs).1
  obtain ⟨b, o, c, hc, _, hA, hF, hb, hcell⟩ := RowA.at h (by decide) hi
  rw [List.getElem?_map, hs] at hc
  injection hc with hc
  subst hc
  have := hcell 0 _ rfl
  rw [Nat.mul_one, Nat.add_zero] at this
  exact ⟨b, o, hA, hF, hb, this⟩
theorem StrsF.le {w : World} {F : Nat → Prop} {l : List Str} {A : Option Addr} {cap : Nat} (h : StrsF w F l A cap) : l.length ≤ cap ∧ cap ≤ maxLen := ⟨RowA.le h, RowA.capm h⟩
theorem flat_strs (l : List Str) : (l.map fun s => [strV s]).flatten = strVs l := by
  induction l with
  | nil => rfl
  | cons s r ih => rw [List.map_cons, List.flatten_cons, ih]; rfl
theorem StrsF.of_own {w : World} {base n : Nat} {e : TypeId} {v : Value} {l : List Str} (h : w.ownsRow base e 1 v n (strVs l)) (hn : l.length = n) : ∃ A cap, v = .slice A n cap ∧ StrsF w (fun b => base ≤ b) l A cap := by
  rw [← flat_strs] at h
  obtain ⟨A, cap, hv, hr⟩ := RowA.of_own h (by decide) (by rw [List.length_map]; exact hn) (by simp)
  subst hn
  exact ⟨A, cap, hv, hr⟩
/-- A slice of arrays. -/
def ArrsF (w : World) (F : Nat → Prop) (l : List (Str × Nat)) (A : Option Addr) (cap : Nat) : Prop := RowA w F 2 l.length A cap (l.map fun a => [strV a.1, .int .i64 (a.2 : Int)])
theorem ArrsF.keep {w w1 : World} {F : Nat → Prop} {l : List (Str × Nat)} {A : Option Addr} {cap : Nat} (h : ArrsF w F l A cap) (k : Kept F w w1) : ArrsF w1 F l A cap := RowA.keep h k
theorem ArrsF.mono {w : World} {F G : Nat → Prop} {l : List (Str × Nat)} {A : Option Addr} {cap : Nat} (h : ArrsF w F l A cap) (k : ∀ b, b < w.heap.size → F b → G b) : ArrsF w G l A cap := RowA.mono h k
theorem ArrsF.at {w : World} {F : Nat → Prop} {l : List (Str × Nat)} {A : Option Addr} {cap : Nat} (h : ArrsF w F l A cap) {i : Nat} {a : Str × Nat} (hs : l[i]? = some a) : ∃ b o, A = some ⟨b, o, none⟩ ∧ F b ∧ b < w.heap.size ∧ w.cell? ⟨b, o + i * 2, none⟩ = some (strV a.1) ∧ w.cell? ⟨b, o + i * 2 + 1, none⟩ = some (.int .i64 (a.2 : Int)) := by
  have hi : i < l.length := (List.getElem?_eq_some_iff.1 hs).1
  obtain ⟨b, o, c, hc, _, hA, hF, hb, hcell⟩ := RowA.at h (by decide) hi
  rw [List.getElem?_map, hs] at hc
  injection hc with hc
  subst hc
  exact ⟨b, o, hA, hF, hb, hcell 0 _ rfl, hcell 1 _ rfl⟩
/-- The four cells of a function. -/
def fCells (f : Fn) (P L B : Option Addr) (cp cl cb : Nat) : List Value := [strV f.name, .slice P f.params.length cp, .slice L f.locals.length cl, .slice B f.body.length cb]
def FnC (w : World) (F : Nat → Prop) (f : Fn) (c : List Value) : Prop := ∃ P L B cp cl cb, c = fCells f P L B cp cl cb ∧ StrsF w F f.params P cp ∧ StrsF w F f.locals L cl ∧ Sts w F f.body B cb
theorem FnC.keep {w w1 : World} {F : Nat → Prop} {f : Fn} {c : List Value} (h : FnC w F f c) (k : Kept F w w1) : FnC w1 F f c := by
  obtain ⟨P, L, B, cp, cl, cb, e, h1, h2, h3⟩ := h
  exact ⟨P, L, B, cp, cl, cb, e, h1.keep k, h2.keep k, h3.keep k⟩
theorem FnC.mono {w : World} {F G : Nat → Prop} {f : Fn} {c : List Value} (h : FnC w F f c) (k : ∀ b, b < w.heap.size → F b → G b) : FnC w G f c := by
  obtain ⟨P, L, B, cp, cl, cb, e, h1, h2, h3⟩ := h
  exact ⟨P, L, B, cp, cl, cb, e, h1.mono k, h2.mono k, h3.mono k⟩
/-- A slice of functions. -/
def FnsF (w : World) (F : Nat → Prop) (l : List Fn) (A : Option Addr) (cap : Nat) : Prop := ∃ css, RowA w F 4 l.length A cap css ∧ ∀ (i : Nat) (f : Fn) (c : List Value), l[i]? = some f → css[i]? = some c → FnC w F f c
theorem FnsF.keep {w w1 : World} {F : Nat → Prop} {l : List Fn} {A : Option Addr} {cap : Nat} (h : FnsF w F l A cap) (k : Kept F w w1) : FnsF w1 F l A cap := by
  obtain ⟨css, h1, h2⟩ := h
  exact ⟨css, h1.keep k, fun i f c hf hc => (h2 i f c hf hc).keep k⟩
theorem FnsF.mono {w : World} {F G : Nat → Prop} {l : List Fn} {A : Option Addr} {cap : Nat} (h : FnsF w F l A cap) (k : ∀ b, b < w.heap.size → F b → G b) : FnsF w G l A cap := by
  obtain ⟨css, h1, h2⟩ := h
  exact ⟨css, h1.mono k, fun i f c hf hc => (h2 i f c hf hc).mono k⟩
theorem FnsF.nil (w : World) (F : Nat → Prop) : FnsF w F [] none 0 := ⟨[], RowA.empty w F 4, fun i f c hf => by simp at hf⟩
theorem FnsF.at {w : World} {F : Nat → Prop} {l : List Fn} {A : Option Addr} {cap : Nat} (h : FnsF w F l A cap) {i : Nat} {f : Fn} (hf : l[i]? = some f) :
    ∃ b o P L B cp cl cb, A = some ⟨b, o, none⟩ ∧ F b ∧ b < w.heap.size ∧ StrsF w F f.params P cp ∧ StrsF w F f.locals L cl ∧ Sts w F f.body B cb ∧ ∀ (j : Nat) (u : Value), (fCells f P L B cp cl cb)[j]? = some u → w.cell? ⟨b, o + (i * 4 + j), none⟩ = some u := by
  obtain ⟨css, h1, h2⟩ := h
  have hi : i < l.length := (List.getElem?_eq_some_iff.1 hf).1
  obtain ⟨b, o, c, hc, _, hA, hF, hb, hcell⟩ := h1.at (by decide) hi
  obtain ⟨P, L, B, cp, cl, cb, rfl, k1, k2, k3⟩ := h2 i f c hf hc
  exact ⟨b, o, P, L, B, cp, cl, cb, hA, hF, hb, k1, k2, k3, hcell⟩
/-- A program as a value. -/
def pgV (p : Prog) (V A E : Option Addr) (cv ca ce : Nat) : Value := .agg #[.slice V p.vars.length cv, .slice A p.arrays.length ca, .slice E p.funcs.length ce]
structure PgM (w : World) (F : Nat → Prop) (p : Prog) (V A E : Option Addr) (cv ca ce : Nat) : Prop where
  vars : StrsF w F p.vars V cv
  arrays : ArrsF w F p.arrays A ca
  funcs : FnsF w F p.funcs E ce
theorem PgM.keep {w w1 : World} {F : Nat → Prop} {p : Prog} {V A E : Option Addr} {cv ca ce : Nat} (h : PgM w F p V A E cv ca ce) (k : Kept F w w1) : PgM w1 F p V A E cv ca ce := ⟨h.vars.keep k, h.arrays.keep k, h.funcs.keep k⟩
theorem PgM.mono {w : World} {F G : Nat → Prop} {p : Prog} {V A E : Option Addr} {cv ca ce : Nat} (h : PgM w F p V A E cv ca ce) (k : ∀ b, b < w.heap.size → F b → G b) : PgM w G p V A E cv ca ce := ⟨h.vars.mono k, h.arrays.mono k, h.funcs.mono k⟩
theorem PgM.nil (w : World) (F : Nat → Prop) : PgM w F Prog.nil none none none 0 0 0 := ⟨StrsF.nil w F, RowA.empty w F 2, FnsF.nil w F⟩

/-! ### A row that grows, whose elements lie elsewhere -/
/-- Elements that avoid the row's own block. -/
def Off (base : Nat) (v : Value) : Nat → Prop := fun b => base ≤ b ∧ v.ownBlock ≠ some b
/-- What an append leaves alone. -/
theorem kept_grown {w w' : World} {base : Nat} {v : Value} (h : w.grownBy w' v.ownBlock) : Kept (Off base v) w w' := ⟨h.size, fun b hF hb => h.block b hb (fun e => hF.2 e.symm)⟩
/-- Behind an append, the elements avoid the row's new block, too: it is the old one or a new one. -/
theorem off_new {w : World} {base : Nat} {v v' : Value} (h : v'.ownBlock = v.ownBlock ∨ ∃ g, v'.ownBlock = some g ∧ w.heap.size ≤ g) : ∀ b, b < w.heap.size → Off base v b → Off base v' b := by
  intro b hb hF
  refine ⟨hF.1, fun e => ?_⟩
  rcases h with h | ⟨g, h, hg⟩
  · exact hF.2 (h ▸ e)
  · rw [h] at e
    injection e with e
    omega
/-- What is made anew avoids a block that was there before. -/
theorem off_fresh {w : World} {base : Nat} {v : Value} (hb : base ≤ w.heap.size) (h : ∀ g, v.ownBlock = some g → g < w.heap.size) : ∀ b, w.heap.size ≤ b → Off base v b := fun b hF => ⟨Nat.le_trans hb hF, fun e => by have := h b e; omega⟩
end Go.Proofs.YtpbcncfbfbghcaaGreatDoor.L20
namespace Go.Proofs.YtpbcncfbfbghcaaGreatDoor.L20
open Mem L19
set_option linter.unusedVariables false
set_option linter.unusedSimpArgs false

def kMain : Str := [109, 97, 105, 110]
/-- "func main() { x = " and "; }" -/
def bod (s : Str) : Str := [102, 117, 110, 99, 32, 109, 97, 105, 110, 40, 41, 32, 123, 32, 120, 32, 61, 32] ++ s ++ [59, 32, 125]
def mainP (l : List Sta) : Prog := ⟨[], [], [⟨kMain, [], [], l⟩]⟩
def assigned (x : Exp) : Prog := mainP [.asg [120] x]
def ops : List Str := [[124, 124], [38, 38], [61, 61], [33, 61], [60], [62], [60, 61], [62, 61], [94], [43], [45], [42], [47], [37]]
def pretok : List Tk := [(3, kFunc), (2, kMain), (4, [40]), (4, [41]), (4, [123]), (2, [120]), (4, [61])]
theorem name_one (c : UInt8) (h : isLt c = true) (hk : wkind [c] = 2) : Tk1 2 [c] := by
  rw [← hk]; exact .wrd c [] h (fun d hd => by rw [List.mem_singleton.1 hd]; exact (lt_al h).2.2.2.2) (by simp)
theorem name_main : Tk1 2 kMain := by
  have : wkind kMain = 2 := by decide
  rw [← this]
  exact .wrd 109 [97, 105, 110] (by decide) (by decide) (by decide)
theorem wfp_assigned {x : Exp} (hx : Wf x) (hd : 1 + dep x ≤ 100) : Wfp (assigned x) := by
  refine ⟨by simp [assigned, mainP], by simp [assigned, mainP], fun f hf => ?_⟩
  rw [show f = ⟨kMain, [], [], [.asg [120] x]⟩ by simpa [assigned, mainP] using hf]
  refine ⟨name_main, by simp, by simp, ?_, ?_⟩
  · show Wfsl [.asg [120] x]
    rw [Wfsl, Wfs, Wfsl]
    exact ⟨⟨name_one 120 (by decide) (by decide), hx⟩, trivial⟩
  · show 1 + dsl [.asg [120] x] ≤ 100
    rw [dsl, dsl, ds]
    omega
theorem tks_assigned (x : Exp) : tks (fmt (assigned x)) = pretok ++ tf x ++ [(4, [59]), (4, [125])] := by
  rw [tks_fmt]
  show tv [] ++ ([] ++ (tfn ⟨kMain, [], [], [.asg [120] x]⟩ ++ [])) = _
  unfold tfn
  rw [tsl_cons, ts_asg]
  have : tsl [] = [] := by unfold tsl; rw [fsl]; rfl
  rw [this]
  simp [tv, tp, pretok]
/-- What is parsed from given tokens: the program that is formatted to them. -/
theorem parse_as {src : Str} {p : Prog} (hw : Wfp p) (h0 : (ans src).2.2 = 0) (h : pairs (ans src).1 = tks (fmt p)) : parse src = (p, 0, 0) := by
  have hg := good_ans src
  obtain ⟨n, hp⟩ := round_prog hw
  rw [← h] at hp
  unfold parse
  rw [if_pos h0]
  unfold parseT
  rw [parseT_of hg hp]
def pre2 (f g : Str) : Str := bod ([117, 32] ++ f ++ [32, 118, 32] ++ g ++ [32, 119])
theorem pre2_tok : ∀ a, a < 14 → ∀ b, b < 14 → (ans (pre2 (ops.getD a []) (ops.getD b []))).2.2 = 0 ∧ pairs (ans (pre2 (ops.getD a []) (ops.getD b []))).1 = pretok ++ [(2, [117]), (4, ops.getD a []), (2, [118]), (4, ops.getD b []), (2, [119])] ++ [(4, [59]), (4, [125])] := by decide +kernel
theorem pre2_bad : ∀ a, a < 14 → ∀ b, b < 14 → lev (ops.getD a []) = 3 → lev (ops.getD b []) = 3 → (parse (pre2 (ops.getD a []) (ops.getD b []))).2.2 = 3 := by decide +kernel
theorem ops_lev : ∀ a, a < 14 → 1 ≤ lev (ops.getD a []) := by decide
theorem tf_var (s : Str) : tf (.var s) = [(2, s)] := by unfold tf; rw [fe]; rfl
theorem T_var (lv : Nat) (h : lv ≤ 8) (s : Str) : T lv (.var s) = [(2, s)] := by
  rw [T_eq, if_neg (by show ¬ 8 < lv; omega), tf_var]
theorem lev_le (op : Str) : lev op ≤ 6 := by unfold lev; (repeat' split) <;> omega
def V (c : UInt8) : Exp := .var [c]
theorem wf_v (c : UInt8) (h : isLt c = true) (hk : wkind [c] = 2) : Wf (V c) := by unfold V; rw [Wf]; exact name_one c h hk
theorem dep_v (c : UInt8) (lv : Nat) (h : lv ≤ 8) : dO lv (V c) (dep (V c)) = 0 := by
  unfold dO V
  rw [if_neg (by show ¬ 8 < lv; omega), dep]
theorem lft_le (op : Str) : lft op ≤ 6 := by have := lev_le op; unfold lft; split <;> omega
theorem prec_left {f g : Str} (hf : 1 ≤ lev f) (hg : 1 ≤ lev g) (h : lev g ≤ lev f) (h3 : ¬ (lev f = 3 ∧ lev g = 3)) :
    Wf (.bin g (.bin f (V 117) (V 118)) (V 119)) ∧ 1 + dep (.bin g (.bin f (V 117) (V 118)) (V 119)) ≤ 100 ∧ tf (.bin g (.bin f (V 117) (V 118)) (V 119)) = [(2, [117]), (4, f), (2, [118]), (4, g), (2, [119])] := by
  have hst : str (.bin f (V 117) (V 118)) = lev f := rfl
  have hl : ¬ lev f < lft g := by unfold lft; split <;> omega
  have := lev_le f
  have := lev_le g
  have := lft_le f
  refine ⟨?_, ?_, ?_⟩
  · rw [Wf, Wf]; exact ⟨hg, ⟨hf, wf_v 117 (by decide) (by decide), wf_v 118 (by decide) (by decide)⟩, wf_v 119 (by decide) (by decide)⟩
  · rw [dep, dep_v 119 _ (by omega)]
    unfold dO
    rw [hst, if_neg hl, dep, dep_v 117 _ (by omega), dep_v 118 _ (by omega)]
    decide
  · rw [tf_bin, T_eq (lft g), hst, if_neg hl, tf_bin]
    unfold V
    rw [T_var _ (by omega), T_var _ (by omega), T_var _ (by omega)]
    rfl
theorem prec_right {f g : Str} (hf : 1 ≤ lev f) (hg : 1 ≤ lev g) (h : lev f < lev g) :
    Wf (.bin f (V 117) (.bin g (V 118) (V 119))) ∧ 1 + dep (.bin f (V 117) (.bin g (V 118) (V 119))) ≤ 100 ∧ tf (.bin f (V 117) (.bin g (V 118) (V 119))) = [(2, [117]), (4, f), (2, [118]), (4, g), (2, [119])] := by
  have hst : str (.bin g (V 118) (V 119)) = lev g := rfl
  have hl : ¬ lev g < lev f + 1 := by omega
  have := lev_le f
  have := lev_le g
  have := lft_le f
  have := lft_le g
  refine ⟨?_, ?_, ?_⟩
  · rw [Wf, Wf]; exact ⟨hf, wf_v 117 (by decide) (by decide), hg, wf_v 118 (by decide) (by decide), wf_v 119 (by decide) (by decide)⟩
  · rw [dep, dep_v 117 _ (by omega)]
    unfold dO
    rw [hst, if_neg hl, dep, dep_v 118 _ (by omega), dep_v 119 _ (by omega)]
    decide
  · rw [tf_bin, T_eq (lev f + 1), hst, if_neg hl, tf_bin]
    unfold V
    rw [T_var _ (by omega), T_var _ (by omega), T_var _ (by omega)]
    rfl
/-- ParserPrecedence. -/
theorem precedence {a b : Nat} (ha : a < 14) (hb : b < 14) :
    (lev (ops.getD a []) = 3 ∧ lev (ops.getD b []) = 3 → (parse (pre2 (ops.getD a []) (ops.getD b []))).2.2 = 3) ∧
    (¬ (lev (ops.getD a []) = 3 ∧ lev (ops.getD b []) = 3) → ¬ lev (ops.getD a []) < lev (ops.getD b []) → parse (pre2 (ops.getD a []) (ops.getD b [])) = (assigned (.bin (ops.getD b []) (.bin (ops.getD a []) (V 117) (V 118)) (V 119)), 0, 0)) ∧
    (lev (ops.getD a []) < lev (ops.getD b []) → parse (pre2 (ops.getD a []) (ops.getD b [])) = (assigned (.bin (ops.getD a []) (V 117) (.bin (ops.getD b []) (V 118) (V 119))), 0, 0)) := by
  obtain ⟨h1, h2⟩ := pre2_tok a ha b hb
  have la := ops_lev a ha
  have lb := ops_lev b hb
  refine ⟨fun h => pre2_bad a ha b hb h.1 h.2, fun h3 hl => ?_, fun hl => ?_⟩
  · obtain ⟨w1, w2, w3⟩ := prec_left la lb (by omega) h3
    exact parse_as (wfp_assigned w1 w2) h1 (by rw [tks_assigned, w3, h2])
  · obtain ⟨w1, w2, w3⟩ := prec_right la lb hl
    exact parse_as (wfp_assigned w1 w2) h1 (by rw [tks_assigned, w3, h2])
end Go.Proofs.YtpbcncfbfbghcaaGreatDoor.L20
namespace Go.Proofs.YtpbcncfbfbghcaaGreatDoor.L20
open Mem L19
set_option linter.unusedVariables false
set_option linter.unusedSimpArgs false

/-! ### Expressions -/
def ft (x : Exp) : Str := txt (fe x)
def opd (lv : Nat) (x : Exp) : Str := if str x < lv then 40 :: ft x ++ [41] else ft x
/-- Texts with a comma and a space between them. -/
def jc : List Str → Str
  | [] => []
  | [a] => a
  | a :: b :: r => a ++ [44, 32] ++ jc (b :: r)
theorem jc_snoc : ∀ (l : List Str) (a : Str), jc (l ++ [a]) = if l.isEmpty then a else jc l ++ [44, 32] ++ a
  | [], a => rfl
  | [b], a => rfl
  | b :: c :: r, a => by
    have ih := jc_snoc (c :: r) a
    simp only [List.isEmpty_cons, Bool.false_eq_true, if_false] at ih ⊢
    rw [List.cons_append, List.cons_append, jc, ← List.cons_append, ih, jc]
    simp
theorem txt_par (lv : Nat) (x : Exp) : txt (par lv x (fe x)) = opd lv x := by
  unfold par opd
  split
  · rw [txt_app, txt]; rfl
  · rfl
theorem txt_sep : ∀ l : List (List It), txt (sep l) = jc (l.map txt)
  | [] => rfl
  | [a] => rfl
  | a :: b :: r => by
    rw [sep, txt_app, txt_app, txt_sep (b :: r)]
    rfl
theorem ft_num (n : Nat) : ft (.num n) = dec n := by unfold ft; rw [fe, txt, txt, List.append_nil]
theorem ft_var (s : Str) : ft (.var s) = s := by unfold ft; rw [fe, txt, txt, List.append_nil]
theorem ft_elem (s : Str) (i : Exp) : ft (.elem s i) = s ++ [91] ++ ft i ++ [93] := by
  unfold ft; rw [fe, txt_app, txt_app]; simp [txt]
theorem ft_call (s : Str) (l : List Exp) : ft (.call s l) = s ++ [40] ++ jc (l.map ft) ++ [41] := by
  unfold ft
  rw [fe, txt_app, txt_app, txt_sep, fel_map, List.map_map]
  simp only [txt, List.append_nil]
  rfl
theorem ft_un (op : Str) (x : Exp) : ft (.un op x) = op ++ opd 7 x := by
  unfold ft; rw [fe, txt, txt_par]
theorem ft_bin (op : Str) (x y : Exp) : ft (.bin op x y) = opd (lft op) x ++ [32] ++ op ++ [32] ++ opd (lev op + 1) y := by
  unfold ft; rw [fe, txt_app, txt_app, txt_par, txt_par]; simp [txt]
/-- The strength, off the operator's name. -/
theorem str_op {x : Exp} (h : Wf x) : str x = if x.opS = eNeg ∨ x.opS = eNot then 7 else if 0 < lev x.opS then lev x.opS else 8 := by
  cases x with
  | num n => rfl
  | var s => rfl
  | elem s i => rfl
  | call s l => rfl
  | un op y =>
    show 7 = _
    rw [if_pos]
    show (if op = [45] then eNeg else eNot) = eNeg ∨ (if op = [45] then eNeg else eNot) = eNot
    split
    · exact .inl rfl
    · exact .inr rfl
  | bin op a b =>
    rw [Wf] at h
    show lev op = if op = eNeg ∨ op = eNot then 7 else if 0 < lev op then lev op else 8
    rw [if_neg, if_pos (show 0 < lev op from h.1)]
    rintro (rfl | rfl)
    · exact absurd h.1 (by decide)
    · exact absurd h.1 (by decide)

/-! ### Statements and programs -/
def ind2 (d : Nat) : Str := List.replicate (2 * d) 32
theorem txt_ind : ∀ d, txt (ind d) = ind2 d
  | 0 => rfl
  | d + 1 => by
    rw [ind, txt, txt, txt_ind d]
    unfold ind2
    rw [show 2 * (d + 1) = 2 * d + 1 + 1 by omega, List.replicate_succ, List.replicate_succ]
theorem ind2_succ (d : Nat) : ind2 (d + 1) = ind2 d ++ [32, 32] := by
  unfold ind2
  rw [show 2 * (d + 1) = 2 * d + 2 by omega, ← List.replicate_append_replicate]
  rfl
def fst' (d : Nat) (s : Sta) : Str := txt (fs d s)
def fstl (d : Nat) (l : List Sta) : Str := txt (fsl d l)
theorem fstl_nil (d : Nat) : fstl d [] = [] := by unfold fstl; rw [fsl]; rfl
theorem fstl_cons (d : Nat) (s : Sta) (l : List Sta) : fstl d (s :: l) = fst' d s ++ fstl d l := by unfold fstl fst'; rw [fsl, txt_app]
theorem fstl_app (d : Nat) : ∀ a b, fstl d (a ++ b) = fstl d a ++ fstl d b
  | [], b => by rw [fstl_nil]; rfl
  | s :: r, b => by rw [List.cons_append, fstl_cons, fstl_cons, fstl_app d r b, List.append_assoc]
theorem f_asg (d : Nat) (s : Str) (x : Exp) : fst' d (.asg s x) = ind2 d ++ s ++ [32, 61, 32] ++ ft x ++ [59, 10] := by
  unfold fst' ft; rw [fs]; simp [txt_app, txt_ind, txt]
theorem f_sto (d : Nat) (s : Str) (i x : Exp) : fst' d (.sto s i x) = ind2 d ++ s ++ [91] ++ ft i ++ [93, 32, 61, 32] ++ ft x ++ [59, 10] := by
  unfold fst' ft; rw [fs]; simp [txt_app, txt_ind, txt]
theorem f_ret (d : Nat) (x : Exp) : fst' d (.ret x) = ind2 d ++ kReturn ++ [32] ++ ft x ++ [59, 10] := by
  unfold fst' ft; rw [fs]; simp [txt_app, txt_ind, txt]
theorem f_cal (d : Nat) (s : Str) (l : List Exp) : fst' d (.cal s l) = ind2 d ++ ft (.call s l) ++ [59, 10] := by
  unfold fst' ft; rw [fs]; simp [txt_app, txt_ind, txt]
theorem f_hlt (d : Nat) : fst' d .hlt = ind2 d ++ kHalt ++ [59, 10] := by
  unfold fst'; rw [fs]; simp [txt_app, txt_ind, txt]
theorem f_whl (d : Nat) (x : Exp) (a : List Sta) : fst' d (.whl x a) = ind2 d ++ kWhile ++ [32] ++ ft x ++ [32, 123, 10] ++ fstl (d + 1) a ++ ind2 d ++ [125, 10] := by
  unfold fst' fstl ft; rw [fs]; simp [txt_app, txt_ind, txt]
theorem f_ifs (d : Nat) (x : Exp) (a b : List Sta) : fst' d (.ifs x a b) = ind2 d ++ kIf ++ [32] ++ ft x ++ [32, 123, 10] ++ fstl (d + 1) a ++ ind2 d ++ (if b.isEmpty then [] else [125, 32] ++ kElse ++ [32, 123, 10] ++ fstl (d + 1) b ++ ind2 d) ++ [125, 10] := by
  unfold fst' fstl ft; rw [fs]
  cases b with
  | nil => simp [txt_app, txt_ind, txt]
  | cons s r => simp [txt_app, txt_ind, txt]
theorem txt_fns (l : List Str) : txt (fns l) = jc l := by
  unfold fns
  rw [txt_sep, List.map_map]
  congr 1
  have : (txt ∘ fun s => [It.t 2 s]) = id := funext fun s => by simp [txt]
  rw [this, List.map_id]
def fvT (d : Nat) (l : List Str) : Str := if l.isEmpty then [] else ind2 d ++ kVar ++ [32] ++ jc l ++ [59, 10]
theorem txt_fvars (d : Nat) (l : List Str) : txt (fvars d l) = fvT d l := by
  unfold fvars fvT
  split
  · rfl
  · simp [txt_app, txt_ind, txt_fns, txt]
def farrT (a : Str × Nat) : Str := kArray ++ [32] ++ a.1 ++ [91] ++ dec a.2 ++ [93, 59, 10]
theorem txt_farr (a : Str × Nat) : txt (farr a) = farrT a := by unfold farr farrT; simp [txt]
def ffnT (f : Fn) : Str := kFunc ++ [32] ++ f.name ++ [40] ++ jc f.params ++ [41, 32, 123, 10] ++ fvT 1 f.locals ++ fstl 1 f.body ++ [125, 10]
theorem txt_ffn (f : Fn) : txt (ffn f) = ffnT f := by unfold ffn ffnT fstl; simp [txt_app, txt_fns, txt_fvars, txt]
theorem txt_fmt (p : Prog) : txt (fmt p) = fvT 0 p.vars ++ p.arrays.flatMap farrT ++ p.funcs.flatMap ffnT := by
  have ha : ∀ l : List (Str × Nat), txt (l.flatMap farr) = l.flatMap farrT := fun l => by
    induction l with
    | nil => rfl
    | cons a r ih => rw [List.flatMap_cons, List.flatMap_cons, txt_app, ih, txt_farr]
  have hf : ∀ l : List Fn, txt (l.flatMap ffn) = l.flatMap ffnT := fun l => by
    induction l with
    | nil => rfl
    | cons a r ih => rw [List.flatMap_cons, List.flatMap_cons, txt_app, ih, txt_ffn]
  unfold fmt
  rw [txt_app, txt_app, txt_fvars, ha, hf]

/-! ### How long -/
theorem dec_len10 : ∀ (k n : Nat), n < 10 ^ (k + 1) → (dec n).length ≤ k + 1
  | 0, n, h => by rw [dec_small n (by simpa using h)]; simp
  | k + 1, n, h => by
    by_cases h1 : n < 10
    · rw [dec_small n h1]; simp
    · rw [dec_step n (by omega), List.length_append]
      have := dec_len10 k (n / 10) (by rw [Nat.pow_succ] at h; omega)
      simp only [List.length_cons, List.length_nil]
      omega
theorem name_len {s : Str} (h : Tk1 2 s) : s.length ≤ 24 := by
  generalize hk : (2 : Nat) = k at h
  cases h with
  | num => omega
  | wrd c r _ _ h3 => exact h3
  | one => omega
  | two => omega
theorem op_len {op : Str} (h : 1 ≤ lev op) : op.length ≤ 2 := by
  have := lev_tk h
  generalize hk : (4 : Nat) = k at this
  cases this with
  | num => omega
  | wrd c r => unfold wkind at hk; split at hk <;> omega
  | one => simp
  | two => simp
theorem cO_ge (lv : Nat) (x : Exp) : ct (fe x) ≤ cO lv x := by rw [cO_eq]; split <;> omega
theorem opd_len {x : Exp} (h : (ft x).length ≤ 30 * ct (fe x)) (lv : Nat) : (opd lv x).length ≤ 30 * cO lv x := by
  unfold opd
  rw [cO_eq]
  split
  · simp only [List.length_append, List.length_cons, List.length_nil]; omega
  · exact h
theorem jc_len : ∀ (x : Exp) (l : List Exp), (∀ y ∈ x :: l, (ft y).length ≤ 30 * ct (fe y)) → (jc ((x :: l).map ft)).length ≤ 30 * (ct (fe x) + cm l)
  | x, [], h => by
    have := h x List.mem_cons_self
    simp only [List.map_cons, List.map_nil, jc, cm]
    omega
  | x, y :: l, h => by
    have h1 := h x List.mem_cons_self
    have h2 := jc_len y l (fun z hz => h z (List.mem_cons_of_mem _ hz))
    simp only [List.map_cons] at h2 ⊢
    rw [jc, cm]
    simp only [List.length_append, List.length_cons, List.length_nil]
    omega
theorem ft_len (x : Exp) : Wf x → (ft x).length ≤ 30 * ct (fe x) := by
  induction x using Exp.ind with
  | h1 n =>
    intro h
    rw [Wf] at h
    rw [ft_num, fe, ct_t, ct_nil]
    have := dec_len10 9 n (by omega)
    omega
  | h2 s =>
    intro h
    rw [Wf] at h
    rw [ft_var, fe, ct_t, ct_nil]
    have := name_len h
    omega
  | h3 s i ih =>
    intro h
    rw [Wf] at h
    have h1 := name_len h.1
    have h2 := ih h.2
    rw [ft_elem, fe, ct_app, ct_app, ct_t, ct_t, ct_t, ct_nil]
    simp only [List.length_append, List.length_cons, List.length_nil]
    omega
  | h4 s l ih =>
    intro h
    rw [Wf] at h
    have h1 := name_len h.1
    rw [ft_call, fe, ct_app, ct_app, ct_t, ct_t, ct_t, ct_nil]
    cases l with
    | nil =>
      rw [fel, sep, ct_nil]
      simp only [List.length_append, List.length_cons, List.length_nil, List.map_nil, jc]
      omega
    | cons x m =>
      have h2 := jc_len x m (fun y hy => ih y hy (h.2.mem y hy))
      rw [ct_sep]
      simp only [List.length_append, List.length_cons, List.length_nil]
      omega
  | h5 op x ih =>
    intro h
    rw [Wf] at h
    have h2 := opd_len (ih h.2) 7
    rw [ft_un, fe, ct_t]
    have h3 : op.length ≤ 1 := by rcases h.1 with rfl | rfl <;> simp
    show _ ≤ 30 * (cO 7 x + 1)
    simp only [List.length_append]
    omega
  | h6 op x y ih1 ih2 =>
    intro h
    rw [Wf] at h
    have h1 := op_len h.1
    have h2 := opd_len (ih1 h.2.1) (lft op)
    have h3 := opd_len (ih2 h.2.2) (lev op + 1)
    rw [ft_bin, fe, ct_app, ct_app, ct_sp, ct_t, ct_sp, ct_nil]
    show _ ≤ 30 * (cO (lft op) x + (0 + 1) + cO (lev op + 1) y)
    simp only [List.length_append, List.length_cons, List.length_nil]
    omega
theorem ind2_len (d : Nat) : (ind2 d).length = 2 * d := by unfold ind2; rw [List.length_replicate]
theorem fs_len (s : Sta) : Wfs s → ∀ d, d + ds s ≤ 101 → (fst' d s).length ≤ 240 * (ts1 s).length := by
  have hl : ∀ l : List Sta, (∀ s ∈ l, Wfs s → ∀ d, d + ds s ≤ 101 → (fst' d s).length ≤ 240 * (ts1 s).length) → Wfsl l → ∀ d, d + dsl l ≤ 101 → (fstl d l).length ≤ 240 * (tsl l).length := by
    intro l
    induction l with
    | nil => intro _ _ d _; rw [fstl_nil]; simp
    | cons s r ih =>
      intro h hw d hd
      rw [Wfsl] at hw
      rw [dsl] at hd
      have h1 := h s List.mem_cons_self hw.1 d (by omega)
      have h2 := ih (fun t ht => h t (List.mem_cons_of_mem _ ht)) hw.2 d (by omega)
      rw [fstl_cons, tsl_cons, List.length_append, List.length_append]
      omega
  have hE : ∀ x, Wf x → (ft x).length ≤ 30 * (tf x).length := fun x hx => ft_len x hx
  induction s using Sta.ind with
  | h1 s x =>
    intro hw d hd
    rw [Wfs] at hw
    have h1 := name_len hw.1
    have h2 := hE x hw.2
    rw [f_asg, ts_asg]
    simp only [List.length_append, List.length_cons, List.length_nil, ind2_len]
    omega
  | h2 s i x =>
    intro hw d hd
    rw [Wfs] at hw
    have h1 := name_len hw.1
    have h2 := hE i hw.2.1
    have h3 := hE x hw.2.2
    rw [f_sto, ts_sto]
    simp only [List.length_append, List.length_cons, List.length_nil, ind2_len]
    omega
  | h3 x a b iha ihb =>
    intro hw d hd
    rw [Wfs] at hw
    rw [ds] at hd
    have h1 := hE x hw.1
    have h2 := hl a iha hw.2.1 (d + 1) (by omega)
    rw [f_ifs, ts_ifs]
    cases b with
    | nil =>
      simp only [List.isEmpty_nil, if_true, List.length_append, List.length_cons, List.length_nil, ind2_len]
      omega
    | cons t r =>
      simp only [List.isEmpty_cons, Bool.false_eq_true, if_false] at hd
      have h3 := hl (t :: r) ihb hw.2.2 (d + 1) (by omega)
      simp only [List.isEmpty_cons, Bool.false_eq_true, if_false, List.length_append, List.length_cons, List.length_nil, ind2_len]
      omega
  | h4 x a iha =>
    intro hw d hd
    rw [Wfs] at hw
    rw [ds] at hd
    have h1 := hE x hw.1
    have h2 := hl a iha hw.2 (d + 1) (by omega)
    rw [f_whl, ts_whl]
    simp only [List.length_append, List.length_cons, List.length_nil, ind2_len]
    omega
  | h5 x =>
    intro hw d hd
    rw [Wfs] at hw
    have h1 := hE x hw
    rw [f_ret, ts_ret]
    simp only [List.length_append, List.length_cons, List.length_nil, ind2_len]
    omega
  | h6 s l =>
    intro hw d hd
    rw [Wfs] at hw
    have h1 := hE _ hw
    rw [f_cal, ts_cal]
    simp only [List.length_append, List.length_cons, List.length_nil, ind2_len]
    omega
  | h7 =>
    intro hw d hd
    rw [f_hlt, ts_hlt]
    simp only [List.length_append, List.length_cons, List.length_nil, ind2_len]
    omega
theorem fsl_len : ∀ (l : List Sta), Wfsl l → ∀ d, d + dsl l ≤ 101 → (fstl d l).length ≤ 240 * (tsl l).length
  | [], _, d, _ => by rw [fstl_nil]; simp
  | s :: r, hw, d, hd => by
    rw [Wfsl] at hw
    rw [dsl] at hd
    have h1 := fs_len s hw.1 d (by omega)
    have h2 := fsl_len r hw.2 d (by omega)
    rw [fstl_cons, tsl_cons, List.length_append, List.length_append]
    omega
theorem jc_names : ∀ (s : Str) (l : List Str), (∀ t ∈ s :: l, t.length ≤ 24) → (jc (s :: l)).length ≤ 26 * (l.length + 1)
  | s, [], h => by
    have := h s List.mem_cons_self
    rw [jc]
    simp
    omega
  | s, t :: r, h => by
    have h1 := h s List.mem_cons_self
    have h2 := jc_names t r (fun u hu => h u (List.mem_cons_of_mem _ hu))
    rw [jc]
    simp only [List.length_append, List.length_cons, List.length_nil] at h2 ⊢
    omega
theorem fv_len (d : Nat) (l : List Str) (hl : ∀ s ∈ l, Tk1 2 s) (hd : d ≤ 1) : (fvT d l).length ≤ 240 * (tv l).length := by
  rw [tv_len]
  unfold fvT vc
  cases l with
  | nil => simp
  | cons s r =>
    have := jc_names s r (fun t ht => name_len (hl t ht))
    simp only [List.isEmpty_cons, Bool.false_eq_true, if_false, List.length_append, List.length_cons, List.length_nil, ind2_len]
    omega
/-- A formatted program is not longer than 240 bytes a token. -/
theorem fmt_len {p : Prog} (hw : Wfp p) : (txt (fmt p)).length ≤ 240 * (tks (fmt p)).length := by
  obtain ⟨w1, w2, w3⟩ := hw
  rw [txt_fmt, tks_fmt]
  have h1 := fv_len 0 p.vars w1 (by omega)
  have h2 : ∀ l : List (Str × Nat), (∀ a ∈ l, Tk1 2 a.1 ∧ a.2 ≤ 4294967295) → (l.flatMap farrT).length ≤ 240 * (l.flatMap tar).length := fun l => by
    induction l with
    | nil => intro _; simp
    | cons a r ih =>
      intro h
      have i1 := ih fun b hb => h b (List.mem_cons_of_mem _ hb)
      have i2 := name_len (h a List.mem_cons_self).1
      have i3 := dec_len10 9 a.2 (by have := (h a List.mem_cons_self).2; omega)
      rw [List.flatMap_cons, List.flatMap_cons, List.length_append, List.length_append]
      unfold farrT tar at *
      simp only [List.length_append, List.length_cons, List.length_nil] at i1 ⊢
      omega
  have h3 : ∀ l : List Fn, (∀ f ∈ l, Wff f) → (l.flatMap ffnT).length ≤ 240 * (l.flatMap tfn).length := fun l => by
    induction l with
    | nil => intro _; simp
    | cons f r ih =>
      intro h
      have i1 := ih fun g hg => h g (List.mem_cons_of_mem _ hg)
      obtain ⟨v1, v2, v3, v4, v5⟩ := h f List.mem_cons_self
      have i2 := name_len v1
      have i3 := fv_len 1 f.locals v3 (by omega)
      have i4 := fsl_len f.body v4 1 (by omega)
      have i5 : (jc f.params).length ≤ 240 * ((tp f.params).length + 1) := by
        have hl := tp_len f.params
        cases hp : f.params with
        | nil => simp [jc]
        | cons s q =>
          rw [hp] at hl
          have := jc_names s q (fun t ht => name_len (v2 t (by rw [hp]; exact ht)))
          simp only [List.isEmpty_cons, Bool.false_eq_true, if_false, List.length_cons] at hl
          omega
      rw [List.flatMap_cons, List.flatMap_cons, List.length_append, List.length_append]
      have e1 : (ffnT f).length = 4 + 1 + f.name.length + 1 + (jc f.params).length + 4 + (fvT 1 f.locals).length + (fstl 1 f.body).length + 2 := by
        unfold ffnT; simp only [List.length_append, List.length_cons, List.length_nil]
      have e2 : (tfn f).length = 3 + (tp f.params).length + 2 + (tv f.locals).length + (tsl f.body).length + 1 := by
        unfold tfn; simp only [List.length_append, List.length_cons, List.length_nil]; omega
      omega
  have h2' := h2 p.arrays w2
  have h3' := h3 p.funcs w3
  simp only [List.length_append]
  omega
end Go.Proofs.YtpbcncfbfbghcaaGreatDoor.L20
namespace Go.Proofs.YtpbcncfbfbghcaaGreatDoor.L20
open Mem L19
set_option linter.unusedVariables false
set_option linter.unusedSimpArgs false

/-- true: a minus sign; false: a parenthesis. -/
def hdB (b : Bool) : Tk := if b then (4, [45]) else (4, [40])
def hd (m : List Bool) : List Tk := m.map hdB
def tl (m : List Bool) : List Tk := List.replicate (m.count false) (4, [41])
def nest : List Bool → Exp
  | [] => V 121
  | true :: m => .un [45] (nest m)
  | false :: m => nest m
theorem tl_false (m : List Bool) (R : List Tk) : tl (false :: m) ++ R = tl m ++ (4, [41]) :: R := by
  unfold tl
  rw [List.count_cons_self, List.replicate_succ', List.append_assoc]
  rfl
theorem tl_true (m : List Bool) : tl (true :: m) = tl m := by
  unfold tl
  rw [List.count_cons_of_ne (by decide)]
theorem deep_ok : ∀ (m : List Bool) (o : Nat) (R : List Tk), o + m.length ≤ 100 → Fol 1 R → U o (hd m ++ (2, [121]) :: (tl m ++ R)) (.ok (nest m) R)
  | [], o, R, _, hf => U.p (.inr (.inl rfl)) (P.var hf.2.1 hf.2.2)
  | true :: m, o, R, h, hf => by
    rw [List.length_cons] at h
    have ih := deep_ok m (o + 1) R (by omega) hf
    rw [tl_true]
    exact U.un (x := nest m) (ts := (4, [45]) :: (hd m ++ (2, [121]) :: (tl m ++ R))) (by simp [sg]) (by omega) ih
  | false :: m, o, R, h, hf => by
    rw [List.length_cons] at h
    have hc : Fol 1 ((4, [41]) :: R) := Fol.sign (by decide) (by decide) (by decide) (Nat.le_refl _) R
    have ih := deep_ok m (o + 1) ((4, [41]) :: R) (by omega) hc
    rw [tl_false]
    exact U.p (.inr (.inr rfl)) (P.par (by omega) (E.to (by omega) (Nat.le_refl _) (E.unary ih) hc))
theorem E.bad {o e : Nat} {ts r : List Tk} (h : U o ts (.bad e r)) : ∀ d, d ≤ 6 → E (7 - d) o ts (.bad e r)
  | 0, _ => E.unary h
  | d + 1, hd => by
    obtain ⟨n, h1⟩ := E.bad h d (by omega)
    refine ⟨n + 1, ?_⟩
    rw [expr, if_neg (by omega), show 7 - (d + 1) + 1 = 7 - d by omega, h1]
    rfl
theorem deep_bad : ∀ (m : List Bool) (o : Nat) (R : List Tk), o ≤ 100 → 100 < o + m.length → ∃ r, U o (hd m ++ R) (.bad 6 r)
  | [], o, R, h1, h2 => by simp at h2; omega
  | b :: m, o, R, h1, h2 => by
    rw [List.length_cons] at h2
    by_cases h : o = 100
    · subst h
      cases b with
      | true => exact ⟨(4, [45]) :: (hd m ++ R), 1, by rw [show hd (true :: m) ++ R = (4, [45]) :: (hd m ++ R) from rfl, unary.eq_2, if_pos (by simp [sg]), if_pos rfl]⟩
      | false =>
        refine ⟨(4, [40]) :: (hd m ++ R), U.p (.inr (.inr rfl)) ⟨1, ?_⟩⟩
        rw [primary, if_neg (by simp [kd]), if_pos (sg_self _ _)]
        unfold enter
        rw [if_pos (sg_self _ _), if_pos rfl]
        rfl
    · obtain ⟨r, hr⟩ := deep_bad m (o + 1) R (by omega) (by omega)
      cases b with
      | true =>
        obtain ⟨n, hn⟩ := hr
        exact ⟨r, n + 1, by rw [show hd (true :: m) ++ R = (4, [45]) :: (hd m ++ R) from rfl, unary.eq_2, if_pos (by simp [sg]), if_neg h, List.tail_cons, hn]; rfl⟩
      | false =>
        obtain ⟨n, hn⟩ := E.bad hr 6 (Nat.le_refl _)
        have hn : expr n 1 (o + 1) (hd m ++ R) = some (.bad 6 r) := hn
        refine ⟨r, U.p (.inr (.inr rfl)) ⟨n + 1, ?_⟩⟩
        show primary (n + 1) o ((4, [40]) :: (hd m ++ R)) = _
        rw [primary, if_neg (by simp [kd]), if_pos (sg_self _ _), enter_o h, bnd_o, hn]
        rfl

/-! ### A function with one assignment -/
def mainF (x : Exp) : Fn := ⟨kMain, [], [], [.asg [120] x]⟩
/-- How such a text is read, from how its expression is read. -/
theorem main_ok {ts R : List Tk} {x : Exp} (h : E 1 1 ts (.ok x ((4, [59]) :: (4, [125]) :: R))) (hR : R = []) : Pg Prog.nil (pretok ++ ts) (.ok (assigned x) []) := by
  subst hR
  obtain ⟨n, h⟩ := h
  refine ⟨n + 4, ?_⟩
  have h0 := mE _ _ _ _ _ h
  have hstm : stm (n + 2) 1 ((2, [120]) :: (4, [61]) :: ts) = some (.ok (.asg [120] x) [(4, [125])]) := by
    rw [stm, if_neg (by simp [sg]), if_neg (by simp [sg]), if_neg (by simp [sg]), if_neg (by simp [sg]), name_o, bnd_o, if_neg (by simp [sg]), if_neg (by simp [sg]), want_o, bnd_o, h0, bnd_o, want_o, bnd_o]
  have hstms : stms (n + 3) 1 ((2, [120]) :: (4, [61]) :: ts) = some (.ok [.asg [120] x] [(4, [125])]) := by
    rw [stms, if_neg (by simp [sg]), hstm, bnd_o, stms, if_pos (sg_self _ _), bnd_o]
  have hl : lcls (n + 3) ((2, [120]) :: (4, [61]) :: ts) = some (.ok [] ((2, [120]) :: (4, [61]) :: ts)) := by
    rw [lcls, if_neg (by simp [sg])]
  have hf : func (n + 3) (pretok ++ ts) = some (.ok (mainF x) []) := by
    unfold func pretok
    show bnd (some (name ((2, kMain) :: (4, [40]) :: (4, [41]) :: (4, [123]) :: (2, [120]) :: (4, [61]) :: ts))) _ = _
    rw [name_o, bnd_o, enter_o (by decide), bnd_o]
    unfold prms
    rw [if_pos (sg_self _ _), bnd_o, want_o, bnd_o, enter_o (by decide), bnd_o, hl, bnd_o, hstms, bnd_o, want_o, bnd_o]
    rfl
  rw [prog, if_neg (by simp [pretok]), if_neg (by simp [pretok, sg]), if_neg (by simp [pretok, sg]), if_pos (by simp [pretok, sg]), hf, bnd_o, prog, if_pos rfl]
  rfl
theorem main_bad {ts r : List Tk} {e : Nat} (h : E 1 1 ts (.bad e r)) : Pg Prog.nil (pretok ++ ts) (.bad e r) := by
  obtain ⟨n, h⟩ := h
  refine ⟨n + 4, ?_⟩
  have h0 := mE _ _ _ _ _ h
  have hstm : stm (n + 2) 1 ((2, [120]) :: (4, [61]) :: ts) = some (.bad e r) := by
    rw [stm, if_neg (by simp [sg]), if_neg (by simp [sg]), if_neg (by simp [sg]), if_neg (by simp [sg]), name_o, bnd_o, if_neg (by simp [sg]), if_neg (by simp [sg]), want_o, bnd_o, h0]
    rfl
  have hstms : stms (n + 3) 1 ((2, [120]) :: (4, [61]) :: ts) = some (.bad e r) := by
    rw [stms, if_neg (by simp [sg]), hstm]
    rfl
  have hl : lcls (n + 3) ((2, [120]) :: (4, [61]) :: ts) = some (.ok [] ((2, [120]) :: (4, [61]) :: ts)) := by
    rw [lcls, if_neg (by simp [sg])]
  have hf : func (n + 3) (pretok ++ ts) = some (.bad e r) := by
    unfold func pretok
    show bnd (some (name ((2, kMain) :: (4, [40]) :: (4, [41]) :: (4, [123]) :: (2, [120]) :: (4, [61]) :: ts))) _ = _
    rw [name_o, bnd_o, enter_o (by decide), bnd_o]
    unfold prms
    rw [if_pos (sg_self _ _), bnd_o, want_o, bnd_o, enter_o (by decide), bnd_o, hl, bnd_o, hstms]
    rfl
  rw [prog, if_neg (by simp [pretok]), if_neg (by simp [pretok, sg]), if_neg (by simp [pretok, sg]), if_pos (by simp [pretok, sg]), hf]
  rfl

/-! ### The text -/
def hdI (m : List Bool) : List It := m.map fun b => .t (hdB b).1 (hdB b).2
def tlI (m : List Bool) : List It := List.replicate (m.count false) (.t 4 [41])
def preI : List It := [.t 3 kFunc, .sp, .t 2 kMain, .t 4 [40], .t 4 [41], .sp, .t 4 [123], .sp, .t 2 [120], .sp, .t 4 [61], .sp]
def postI : List It := [.t 4 [59], .sp, .t 4 [125]]
def deepI (m : List Bool) : List It := preI ++ (hdI m ++ .t 2 [121] :: (tlI m ++ postI))
def hdT (m : List Bool) : Str := m.map fun b => if b then 45 else 40
def tlT (m : List Bool) : Str := List.replicate (m.count false) 41
theorem txt_deep (m : List Bool) : txt (deepI m) = bod (hdT m ++ [121] ++ tlT m) := by
  have h1 : ∀ m, txt (hdI m) = hdT m := fun m => by
    induction m with
    | nil => rfl
    | cons b r ih =>
      show txt (.t (hdB b).1 (hdB b).2 :: hdI r) = _
      rw [txt, ih]
      cases b <;> rfl
  have h2 : ∀ k, txt (List.replicate k (.t 4 [41])) = List.replicate k 41 := fun k => by
    induction k with
    | zero => rfl
    | succ k ih => rw [List.replicate_succ, txt, ih]; rfl
  unfold deepI bod
  rw [txt_app, txt_app, txt, txt_app, h1]
  unfold tlI tlT
  rw [h2]
  simp [txt, preI, postI, kMain]
theorem tks_deep (m : List Bool) : tks (deepI m) = pretok ++ (hd m ++ (2, [121]) :: (tl m ++ [(4, [59]), (4, [125])])) := by
  have h1 : ∀ m, tks (hdI m) = hd m := fun m => by
    induction m with
    | nil => rfl
    | cons b r ih =>
      show tks (.t (hdB b).1 (hdB b).2 :: hdI r) = _
      rw [tks, ih]
      rfl
  have h2 : ∀ k, tks (List.replicate k (.t 4 [41])) = List.replicate k (4, [41]) := fun k => by
    induction k with
    | zero => rfl
    | succ k ih => rw [List.replicate_succ, tks, ih]; rfl
  unfold deepI
  rw [tks_app, tks_app, tks, tks_app, h1]
  unfold tlI tl
  rw [h2]
  rfl
theorem adj_deep (m : List Bool) : Adj none (deepI m) := by
  have hpost : ∀ q, En q → Adj (some q) postI := fun q hq => by
    unfold postI
    refine adj_sign (s1 59 (by decide)) (fun a e => by injection e with e; subst e; exact en_ok hq _) ?_
    rw [Adj]
    exact adj_sign (s1 125 (by decide)) no_prev (by rw [Adj]; trivial)
  have htl : ∀ k q, En q → Adj (some q) (List.replicate k (.t 4 [41]) ++ postI) := fun k => by
    induction k with
    | zero => intro q hq; exact hpost q hq
    | succ k ih =>
      intro q hq
      rw [List.replicate_succ, List.cons_append]
      exact adj_sign (s1 41 (by decide)) (fun a e => by injection e with e; subst e; exact en_ok hq _) (ih _ (.inr (.inr (.inl rfl))))
  have hy : ∀ p, Sp p → Adj p (.t 2 [121] :: (tlI m ++ postI)) := fun p hp => by
    rw [Adj]
    exact ⟨name_one 121 (by decide) (by decide), sp_ok hp (by decide), htl _ _ (.inr (.inl rfl))⟩
  have hh : ∀ (m' : List Bool) p, Sp p → Adj p (hdI m' ++ .t 2 [121] :: (tlI m ++ postI)) := fun m' => by
    induction m' with
    | nil => exact hy
    | cons b r ih =>
      intro p hp
      show Adj p (.t (hdB b).1 (hdB b).2 :: (hdI r ++ .t 2 [121] :: (tlI m ++ postI)))
      cases b
      · exact adj_sign (s1 40 (by decide)) (sp_ok hp (by decide)) (ih _ (.inr (.inl rfl)))
      · exact adj_sign (s1 45 (by decide)) (sp_ok hp (by decide)) (ih _ (.inr (.inr (.inr (.inr rfl)))))
  show Adj none (.t 3 kFunc :: .sp :: .t 2 kMain :: .t 4 [40] :: .t 4 [41] :: .sp :: .t 4 [123] :: .sp :: .t 2 [120] :: .sp :: .t 4 [61] :: .sp :: (hdI m ++ .t 2 [121] :: (tlI m ++ postI)))
  rw [Adj, Adj, Adj]
  refine ⟨k_func, no_prev, name_main, no_prev, adj_sign (s1 40 (by decide)) (fun a e => by injection e with e; subst e; exact .inl ⟨by show 2 ≤ 3; decide, rfl⟩) ?_⟩
  refine adj_sign (s1 41 (by decide)) (fun a e => by injection e with e; subst e; exact .inr ⟨rfl, .inl (by decide)⟩) ?_
  rw [Adj]
  refine adj_sign (s1 123 (by decide)) no_prev ?_
  rw [Adj, Adj, Adj]
  refine ⟨name_one 120 (by decide) (by decide), no_prev, adj_sign (s1 61 (by decide)) no_prev ?_⟩
  rw [Adj]
  exact hh m none (.inl rfl)
theorem lines_one : ∀ (l : List It), (∀ x ∈ l, x ≠ .nl) → ∀ n, ∀ t ∈ lnT n l, t.2.2 = n
  | [], _, n, t, ht => by cases ht
  | .t k T :: r, h, n, t, ht => by
    rw [lnT] at ht
    rcases List.mem_cons.1 ht with rfl | ht
    · rfl
    · exact lines_one r (fun x hx => h x (List.mem_cons_of_mem _ hx)) n t ht
  | .sp :: r, h, n, t, ht => lines_one r (fun x hx => h x (List.mem_cons_of_mem _ hx)) n t (by rw [lnT] at ht; exact ht)
  | .nl :: r, h, n, t, ht => absurd rfl (h .nl List.mem_cons_self)
theorem lineAt_all {l : List Tok} (h0 : l ≠ []) {k : Nat} (h : ∀ t ∈ l, t.2.2 = k) (rest : Nat) : lineAt l rest = k := by
  unfold lineAt
  split
  · rename_i t r e
    exact h t ((List.drop_sublist _ _).subset (by rw [e]; exact List.mem_cons_self))
  · cases e : l.getLast? with
    | none => exact absurd (List.getLast?_eq_none_iff.1 e) h0
    | some t => exact h t (List.mem_of_getLast? e)
/-- ParserDepth. -/
theorem depth {m : List Bool} (hm : m.length ≤ 100) :
    (m.length ≤ 99 → parse (bod (hdT m ++ [121] ++ tlT m)) = (assigned (nest m), 0, 0)) ∧ (100 ≤ m.length → parse (bod (hdT m ++ [121] ++ tlT m)) = (Prog.nil, 1, 6)) := by
  have hlen : (txt (deepI m)).length ≤ 60000 := by
    rw [txt_deep]
    unfold bod hdT tlT
    have := List.count_le_length (a := false) (l := m)
    simp
    omega
  have ha : ans (txt (deepI m)) = (lnT 1 (deepI m), 0, 0) := by rw [ans_eq hlen, lex_items _ none 1 (adj_deep m)]; rfl
  have hg := good_ans (txt (deepI m))
  rw [ha] at hg
  have hp : pairs (lnT 1 (deepI m)) = pretok ++ (hd m ++ (2, [121]) :: (tl m ++ [(4, [59]), (4, [125])])) := by rw [pairs_lnT, tks_deep]
  rw [← txt_deep]
  unfold parse
  rw [ha, if_pos rfl]
  unfold parseT
  constructor
  · intro h
    have hu := deep_ok m 1 [(4, [59]), (4, [125])] (by omega) (fol_sc _)
    obtain ⟨k, hk⟩ := main_ok (R := []) (E.to (by omega) (Nat.le_refl _) (E.unary hu) (fol_sc _)) rfl
    rw [← hp] at hk
    rw [parseT_of hg hk]
  · intro h
    obtain ⟨r, hr⟩ := deep_bad m 1 ((2, [121]) :: (tl m ++ [(4, [59]), (4, [125])])) (by omega) (by omega)
    obtain ⟨k, hk⟩ := main_bad (E.bad hr 6 (Nat.le_refl _))
    rw [← hp] at hk
    rw [parseT_of hg hk]
    have hl : lineAt (lnT 1 (deepI m)) r.length = 1 := lineAt_all (by unfold deepI preI; simp [lnT]) (lines_one _ (by
      intro x hx
      unfold deepI preI postI hdI tlI at hx
      simp only [List.mem_append, List.mem_cons, List.mem_map, List.mem_replicate, List.not_mem_nil, or_false] at hx
      rintro rfl
      simp at hx) 1) _
    show (Prog.nil, lineAt (lnT 1 (deepI m)) r.length, 6) = _
    rw [hl]
end Go.Proofs.YtpbcncfbfbghcaaGreatDoor.L20
namespace Go.Proofs.YtpbcncfbfbghcaaGreatDoor.L20
open Mem L19
set_option linter.unusedVariables false
set_option linter.unusedSimpArgs false

/-! ### Another token behind, another depth -/
section
variable (R R' : List Tk)
theorem suf_split {S2 t' w : List Tk} (h : (S2 ++ w) <:+ t') : ∃ Q, t' = (Q ++ S2) ++ w := by
  obtain ⟨Q, hQ⟩ := h
  exact ⟨Q, by rw [← hQ, List.append_assoc]⟩
theorem len_le {A S w t : List Tk} (h : t <:+ S ++ w) (e : t = A ++ w) : A.length ≤ S.length := by
  have := h.length_le
  rw [e] at this
  simp only [List.length_append] at this
  omega
theorem swap1 : ∀ n, (∀ lvl o o' S1 S2 x, 1 ≤ lvl → lvl ≤ 7 → o ≤ 100 → Good (S1 ++ (4, [59]) :: R) → o' + S1.length ≤ 100 → expr n lvl o (S1 ++ (4, [59]) :: R) = some (.ok x (S2 ++ (4, [59]) :: R)) → expr n lvl o' (S1 ++ (4, [41]) :: R') = some (.ok x (S2 ++ (4, [41]) :: R'))) ∧
    (∀ lvl o o' S1 S2 z x, 1 ≤ lvl → lvl ≤ 6 → o ≤ 100 → Good (S1 ++ (4, [59]) :: R) → o' + S1.length ≤ 100 → loop n lvl o z (S1 ++ (4, [59]) :: R) = some (.ok x (S2 ++ (4, [59]) :: R)) → loop n lvl o' z (S1 ++ (4, [41]) :: R') = some (.ok x (S2 ++ (4, [41]) :: R'))) ∧
    (∀ o o' S1 S2 x, o ≤ 100 → Good (S1 ++ (4, [59]) :: R) → o' + S1.length ≤ 100 → unary n o (S1 ++ (4, [59]) :: R) = some (.ok x (S2 ++ (4, [59]) :: R)) → unary n o' (S1 ++ (4, [41]) :: R') = some (.ok x (S2 ++ (4, [41]) :: R'))) ∧
    (∀ o o' S1 S2 x, o ≤ 100 → Good (S1 ++ (4, [59]) :: R) → o' + S1.length ≤ 100 → primary n o (S1 ++ (4, [59]) :: R) = some (.ok x (S2 ++ (4, [59]) :: R)) → primary n o' (S1 ++ (4, [41]) :: R') = some (.ok x (S2 ++ (4, [41]) :: R'))) ∧
    (∀ o o' S1 S2 l, o ≤ 100 → Good (S1 ++ (4, [59]) :: R) → o' + S1.length ≤ 100 → args n o (S1 ++ (4, [59]) :: R) = some (.ok l (S2 ++ (4, [59]) :: R)) → args n o' (S1 ++ (4, [41]) :: R') = some (.ok l (S2 ++ (4, [41]) :: R'))) ∧
    (∀ o o' S1 S2 l, o ≤ 100 → Good (S1 ++ (4, [59]) :: R) → o' + S1.length ≤ 100 → more n o (S1 ++ (4, [59]) :: R) = some (.ok l (S2 ++ (4, [59]) :: R)) → more n o' (S1 ++ (4, [41]) :: R') = some (.ok l (S2 ++ (4, [41]) :: R')))
  | 0 => by
    refine ⟨?_, ?_, ?_, ?_, ?_, ?_⟩
    · intro lvl o o' S1 S2 x _ _ _ _ _ h; rw [expr] at h; cases h
    · intro lvl o o' S1 S2 z x _ _ _ _ _ h; rw [loop] at h; cases h
    · intro o o' S1 S2 x _ _ _ h; rw [unary] at h; cases h
    · intro o o' S1 S2 x _ _ _ h; rw [primary] at h; cases h
    · intro o o' S1 S2 x _ _ _ h; rw [args] at h; cases h
    · intro o o' S1 S2 x _ _ _ h; rw [more] at h; cases h
  | n + 1 => by
    obtain ⟨i1, i2, i3, i4, i5, i6⟩ := swap1 n
    obtain ⟨s1, s2, s3, s4, s5, s6⟩ := su1 n
    refine ⟨?_, ?_, ?_, ?_, ?_, ?_⟩
    · intro lvl o o' S1 S2 x h1 h7 ho hg hd h
      rw [expr] at h ⊢
      split at h
      · rename_i e
        rw [if_pos e]
        exact i3 o o' S1 S2 x ho hg hd h
      · rename_i e
        rw [if_neg e]
        obtain ⟨z, t', hz, hx⟩ := bnd_ok h
        have hsu := s1 _ _ _ _ _ hz
        obtain ⟨Q, rfl⟩ := suf_split (s2 _ _ _ _ _ _ hx)
        have hl := len_le hsu rfl
        rw [i1 (lvl + 1) o o' S1 (Q ++ S2) z (by omega) (by omega) ho hg hd hz, bnd_o]
        exact i2 lvl o o' (Q ++ S2) S2 z x h1 (by omega) ho (hg.suf hsu) (by omega) hx
    · intro lvl o o' S1 S2 z x h1 h6 ho hg hd h
      rw [loop] at h ⊢
      cases S1 with
      | nil =>
        have hb : ∀ T : Str, lev T = 0 → ∀ q, bop lvl ((4, T) :: q) = false := fun T hT q => by
          show (true && lev T == lvl) = false
          rw [Bool.true_and, beq_eq_false_iff_ne]; omega
        rw [List.nil_append] at h ⊢
        rw [hb [59] (by decide)] at h
        rw [hb [41] (by decide)]
        rw [if_neg (by simp)] at h ⊢
        obtain ⟨rfl, e⟩ := some_ok h
        have : S2 = [] := by
          have := congrArg List.length e
          simpa using this
        subst this
        rfl
      | cons t q =>
        have eb : ∀ w, bop lvl (t :: q ++ w) = bop lvl [t] := fun w => rfl
        have et : ∀ w : List Tk, tx (t :: q ++ w) = tx [t] := fun w => rfl
        rw [eb] at h ⊢
        rw [et] at h ⊢
        split at h
        · rename_i hb
          rw [if_pos hb]
          obtain ⟨y, t', hy, hx⟩ := bnd_ok h
          have hy : expr n (lvl + 1) o (q ++ (4, [59]) :: R) = some (.ok y t') := hy
          have hg1 : Good (q ++ (4, [59]) :: R) := hg.suf (suf_tail (t :: q ++ (4, [59]) :: R))
          have hsu := s1 _ _ _ _ _ hy
          show bnd (expr n (lvl + 1) o' (q ++ (4, [41]) :: R')) _ = _
          rw [List.length_cons] at hd
          split at hx
          · rename_i e3
            obtain ⟨rfl, rfl⟩ := some_ok hx
            rw [i1 (lvl + 1) o o' q S2 y (by omega) (by omega) ho hg1 (by omega) hy, bnd_o, if_pos e3]
          · rename_i e3
            obtain ⟨Q, rfl⟩ := suf_split (s2 _ _ _ _ _ _ hx)
            have hl := len_le hsu rfl
            rw [i1 (lvl + 1) o o' q (Q ++ S2) y (by omega) (by omega) ho hg1 (by omega) hy, bnd_o, if_neg e3]
            exact i2 lvl o o' (Q ++ S2) S2 _ x h1 h6 ho (hg1.suf hsu) (by omega) hx
        · rename_i hb
          rw [if_neg hb]
          obtain ⟨rfl, e⟩ := some_ok h
          have : S2 = t :: q := (List.append_cancel_right e).symm
          subst this
          rfl
    · intro o o' S1 S2 x ho hg hd h
      cases S1 with
      | nil =>
        obtain ⟨a1, a2, a3, a4⟩ := (read1 (n + 1)).2.2.1 o _ x _ ho hg h
        have := cO_pos a1 7
        simp at a3
        omega
      | cons t q =>
        rw [unary] at h ⊢
        have es : ∀ s w, sg s (t :: q ++ w) = sg s [t] := fun s w => rfl
        have et : ∀ w : List Tk, tx (t :: q ++ w) = tx [t] := fun w => rfl
        rw [es, es, et] at h ⊢
        rw [List.length_cons] at hd
        split at h
        · rename_i hs
          rw [if_pos hs]
          split at h
          · cases h
          · rename_i h100
            rw [if_neg (by omega)]
            obtain ⟨y, t', hy, hx⟩ := bnd_ok h
            have hy : unary n (o + 1) (q ++ (4, [59]) :: R) = some (.ok y t') := hy
            obtain ⟨rfl, rfl⟩ := some_ok hx
            show bnd (unary n (o' + 1) (q ++ (4, [41]) :: R')) _ = _
            rw [i3 (o + 1) (o' + 1) q S2 y (by omega) (hg.suf (suf_tail (t :: q ++ (4, [59]) :: R))) (by omega) hy, bnd_o]
        · rename_i hs
          rw [if_neg hs]
          exact i4 o o' (t :: q) S2 x ho hg (by rw [List.length_cons]; omega) h
    · intro o o' S1 S2 x ho hg hd h
      cases S1 with
      | nil =>
        obtain ⟨a1, a2, a3, a4⟩ := (read1 (n + 1)).2.2.2.1 o _ x _ ho hg h
        have := cO_pos a1 8
        simp at a3
        omega
      | cons t q =>
        rw [primary] at h ⊢
        have es : ∀ s w, sg s (t :: q ++ w) = sg s [t] := fun s w => rfl
        have ek : ∀ k w, kd k (t :: q ++ w) = kd k [t] := fun s w => rfl
        have et : ∀ w : List Tk, tx (t :: q ++ w) = tx [t] := fun w => rfl
        have hg1 : Good (q ++ (4, [59]) :: R) := hg.suf (suf_tail (t :: q ++ (4, [59]) :: R))
        rw [List.length_cons] at hd
        rw [es, ek, et] at h ⊢
        split at h
        · rename_i hk
          rw [if_pos hk]
          obtain ⟨rfl, e⟩ := some_ok h
          have : S2 = q := (List.append_cancel_right (show q ++ (4, [59]) :: R = S2 ++ (4, [59]) :: R from e)).symm
          subst this
          rfl
        rename_i hk
        rw [if_neg hk]
        split at h
        · rename_i hs
          rw [if_pos hs]
          obtain ⟨_, ts1, he, h⟩ := bnd_ok h
          obtain ⟨e1, e2, rfl⟩ := enter_ok he
          obtain ⟨y, ts2, hy, h⟩ := bnd_ok h
          have hy : expr n 1 (o + 1) (q ++ (4, [59]) :: R) = some (.ok y ts2) := hy
          obtain ⟨_, ts3, hw, h⟩ := bnd_ok h
          obtain ⟨w1, rfl⟩ := want_ok hw
          obtain ⟨rfl, e⟩ := some_ok h
          have hsu := s1 _ _ _ _ _ hy
          have hs2 : (S2 ++ (4, [59]) :: R) <:+ ts2 := by rw [← e]; exact suf_tail ts2
          obtain ⟨Q, rfl⟩ := suf_split hs2
          have w2 : sg [41] ((Q ++ S2) ++ (4, [41]) :: R') = true ∧ ((Q ++ S2) ++ (4, [41]) :: R').tail = S2 ++ (4, [41]) :: R' := by
            cases hq : Q ++ S2 with
            | nil =>
              rw [hq] at w1
              simp [sg] at w1
            | cons a b =>
              rw [hq] at w1 e
              have e : b ++ (4, [59]) :: R = S2 ++ (4, [59]) :: R := e
              have : b = S2 := List.append_cancel_right e
              subst this
              exact ⟨w1, rfl⟩
          have hen : enter [40] o' (t :: q ++ (4, [41]) :: R') = .ok () (q ++ (4, [41]) :: R') := by
            unfold enter
            rw [es, ← es _ ((4, [59]) :: R), e1, if_pos rfl, if_neg (by omega)]
            rfl
          rw [hen, bnd_o, i1 1 (o + 1) (o' + 1) q (Q ++ S2) y (by omega) (by omega) (by omega) hg1 (by omega) hy, bnd_o]
          unfold want
          rw [w2.1, if_pos rfl, bnd_o, w2.2]
        · rename_i hs
          rw [if_neg hs]
          obtain ⟨s, ts1, hn, h⟩ := bnd_ok h
          obtain ⟨n1, rfl, rfl⟩ := name_ok hn
          have hnm : name (t :: q ++ (4, [41]) :: R') = .ok (tx [t]) (q ++ (4, [41]) :: R') := by
            unfold name
            rw [ek, ← ek _ ((4, [59]) :: R), n1, if_pos rfl]
            rfl
          rw [hnm, bnd_o]
          have h : (if sg [40] (q ++ (4, [59]) :: R) = true then bnd (args n o (q ++ (4, [59]) :: R)) fun l ts => some (.ok (.call (tx [t]) l) ts) else if sg [91] (q ++ (4, [59]) :: R) = true then bnd (some (enter [91] o (q ++ (4, [59]) :: R))) fun _ ts => bnd (expr n 1 (o + 1) ts) fun x ts => bnd (some (want [93] ts)) fun _ ts => some (.ok (.elem (tx [t]) x) ts) else some (.ok (.var (tx [t])) (q ++ (4, [59]) :: R))) = some (.ok x (S2 ++ (4, [59]) :: R)) := h
          cases q with
          | nil =>
            rw [List.nil_append, sg_ne (by decide), sg_ne (by decide)] at h
            rw [List.nil_append, sg_ne (by decide), sg_ne (by decide)]
            rw [if_neg (by simp), if_neg (by simp)] at h ⊢
            obtain ⟨rfl, e⟩ := some_ok h
            have : S2 = [] := by
              have := congrArg List.length e
              simpa using this
            subst this
            rfl
          | cons u q =>
            have es2 : ∀ s w, sg s (u :: q ++ w) = sg s [u] := fun s w => rfl
            rw [es2, es2] at h ⊢
            rw [List.length_cons] at hd
            split at h
            · rename_i h2
              rw [if_pos h2]
              obtain ⟨l, ts2, hl, h⟩ := bnd_ok h
              obtain ⟨rfl, rfl⟩ := some_ok h
              rw [i5 o o' (u :: q) S2 l ho hg1 (by rw [List.length_cons]; omega) hl, bnd_o]
            · rename_i h2
              rw [if_neg h2]
              split at h
              · rename_i h3
                rw [if_pos h3]
                obtain ⟨_, ts2, he, h⟩ := bnd_ok h
                obtain ⟨e1, e2, rfl⟩ := enter_ok he
                obtain ⟨y, ts3, hy, h⟩ := bnd_ok h
                have hy : expr n 1 (o + 1) (q ++ (4, [59]) :: R) = some (.ok y ts3) := hy
                obtain ⟨_, ts4, hw, h⟩ := bnd_ok h
                obtain ⟨w1, rfl⟩ := want_ok hw
                obtain ⟨rfl, e⟩ := some_ok h
                have hsu := s1 _ _ _ _ _ hy
                have hs2 : (S2 ++ (4, [59]) :: R) <:+ ts3 := by rw [← e]; exact suf_tail ts3
                obtain ⟨Q, rfl⟩ := suf_split hs2
                have w2 : sg [93] ((Q ++ S2) ++ (4, [41]) :: R') = true ∧ ((Q ++ S2) ++ (4, [41]) :: R').tail = S2 ++ (4, [41]) :: R' := by
                  cases hq : Q ++ S2 with
                  | nil =>
                    rw [hq] at w1
                    simp [sg] at w1
                  | cons a b =>
                    rw [hq] at w1 e
                    have e : b ++ (4, [59]) :: R = S2 ++ (4, [59]) :: R := e
                    have : b = S2 := List.append_cancel_right e
                    subst this
                    exact ⟨w1, rfl⟩
                have hen : enter [91] o' (u :: q ++ (4, [41]) :: R') = .ok () (q ++ (4, [41]) :: R') := by
                  unfold enter
                  rw [es2, h3, if_pos rfl, if_neg (by omega)]
                  rfl
                rw [hen, bnd_o, i1 1 (o + 1) (o' + 1) q (Q ++ S2) y (by omega) (by omega) (by omega) (hg1.suf (suf_tail (u :: q ++ (4, [59]) :: R))) (by omega) hy, bnd_o]
                unfold want
                rw [w2.1, if_pos rfl, bnd_o, w2.2]
              · rename_i h3
                rw [if_neg h3]
                obtain ⟨rfl, e⟩ := some_ok h
                have : S2 = u :: q := (List.append_cancel_right e).symm
                subst this
                rfl
    · intro o o' S1 S2 l ho hg hd h
      cases S1 with
      | nil =>
        obtain ⟨a1, a2, a3, a4⟩ := (read1 (n + 1)).2.2.2.2.1 o _ l _ ho hg h
        simp at a3
        omega
      | cons t q =>
        rw [args] at h ⊢
        rw [List.length_cons] at hd
        have es : ∀ s w, sg s (t :: q ++ w) = sg s [t] := fun s w => rfl
        have hg1 : Good (q ++ (4, [59]) :: R) := hg.suf (suf_tail (t :: q ++ (4, [59]) :: R))
        obtain ⟨_, ts1, he, h⟩ := bnd_ok h
        obtain ⟨e1, e2, rfl⟩ := enter_ok he
        have hen : enter [40] o' (t :: q ++ (4, [41]) :: R') = .ok () (q ++ (4, [41]) :: R') := by
          unfold enter
          rw [es, ← es _ ((4, [59]) :: R), e1, if_pos rfl, if_neg (by omega)]
          rfl
        rw [hen, bnd_o]
        have h : (if sg [41] (q ++ (4, [59]) :: R) = true then some (.ok [] (q ++ (4, [59]) :: R).tail) else bnd (expr n 1 (o + 1) (q ++ (4, [59]) :: R)) fun x ts => bnd (more n (o + 1) ts) fun l ts => bnd (some (want [41] ts)) fun _ ts => some (.ok (x :: l) ts)) = some (.ok l (S2 ++ (4, [59]) :: R)) := h
        cases q with
        | nil =>
          exfalso
          rw [List.nil_append, sg_ne (by decide), if_neg (by simp)] at h
          obtain ⟨y, ts2, hy, h⟩ := bnd_ok h
          have hr := (read1 n).1 1 (o + 1) _ y ts2 (by omega) (by omega) (by omega) hg1 hy
          obtain ⟨a1, a2, a3, a4⟩ := hr
          have := cO_pos a1 1
          obtain ⟨k, ts3, hm, h⟩ := bnd_ok h
          obtain ⟨_, ts4, hw, h⟩ := bnd_ok h
          obtain ⟨w1, rfl⟩ := want_ok hw
          obtain ⟨rfl, e⟩ := some_ok h
          have l1 := (s6 _ _ _ _ hm).length_le
          have l2 := congrArg List.length e
          have l3 := tail_len ts3 (sg_has w1)
          simp at a3 l2
          omega
        | cons u q =>
          have es2 : ∀ s w, sg s (u :: q ++ w) = sg s [u] := fun s w => rfl
          rw [es2] at h ⊢
          rw [List.length_cons] at hd
          split at h
          · rename_i hc
            rw [if_pos hc]
            obtain ⟨rfl, e⟩ := some_ok h
            have : S2 = q := (List.append_cancel_right (show q ++ (4, [59]) :: R = S2 ++ (4, [59]) :: R from e)).symm
            subst this
            rfl
          · rename_i hc
            rw [if_neg hc]
            obtain ⟨y, ts2, hy, h⟩ := bnd_ok h
            obtain ⟨k, ts3, hm, h⟩ := bnd_ok h
            obtain ⟨_, ts4, hw, h⟩ := bnd_ok h
            obtain ⟨w1, rfl⟩ := want_ok hw
            obtain ⟨rfl, e⟩ := some_ok h
            have hsu1 := s1 _ _ _ _ _ hy
            have hsu2 := s6 _ _ _ _ hm
            have hs3 : (S2 ++ (4, [59]) :: R) <:+ ts3 := by rw [← e]; exact suf_tail ts3
            obtain ⟨Q, rfl⟩ := suf_split hs3
            obtain ⟨Q2, rfl⟩ := suf_split hsu2
            have l1 := len_le hsu1 rfl
            have w2 : sg [41] ((Q ++ S2) ++ (4, [41]) :: R') = true ∧ ((Q ++ S2) ++ (4, [41]) :: R').tail = S2 ++ (4, [41]) :: R' := by
              cases hq : Q ++ S2 with
              | nil =>
                rw [hq] at w1
                simp [sg] at w1
              | cons a b =>
                rw [hq] at w1 e
                have e : b ++ (4, [59]) :: R = S2 ++ (4, [59]) :: R := e
                have : b = S2 := List.append_cancel_right e
                subst this
                exact ⟨w1, rfl⟩
            rw [List.length_cons] at l1
            rw [i1 1 (o + 1) (o' + 1) (u :: q) (Q2 ++ (Q ++ S2)) y (by omega) (by omega) (by omega) hg1 (by rw [List.length_cons]; omega) hy, bnd_o,
              i6 (o + 1) (o' + 1) (Q2 ++ (Q ++ S2)) (Q ++ S2) k (by omega) (hg1.suf hsu1) (by omega) hm, bnd_o]
            unfold want
            rw [w2.1, if_pos rfl, bnd_o, w2.2]
    · intro o o' S1 S2 l ho hg hd h
      rw [more] at h ⊢
      cases S1 with
      | nil =>
        rw [List.nil_append, sg_ne (by decide), if_neg (by simp)] at h
        rw [List.nil_append, sg_ne (by decide), if_neg (by simp)]
        obtain ⟨rfl, e⟩ := some_ok h
        have : S2 = [] := by
          have := congrArg List.length e
          simpa using this
        subst this
        rfl
      | cons t q =>
        have es : ∀ s w, sg s (t :: q ++ w) = sg s [t] := fun s w => rfl
        rw [es] at h ⊢
        rw [List.length_cons] at hd
        split at h
        · rename_i hc
          rw [if_pos hc]
          have hg1 : Good (q ++ (4, [59]) :: R) := hg.suf (suf_tail (t :: q ++ (4, [59]) :: R))
          obtain ⟨y, ts2, hy, h⟩ := bnd_ok h
          have hy : expr n 1 o (q ++ (4, [59]) :: R) = some (.ok y ts2) := hy
          obtain ⟨k, ts3, hm, h⟩ := bnd_ok h
          obtain ⟨rfl, rfl⟩ := some_ok h
          have hsu1 := s1 _ _ _ _ _ hy
          obtain ⟨Q, rfl⟩ := suf_split (s6 _ _ _ _ hm)
          have l1 := len_le hsu1 rfl
          show bnd (expr n 1 o' (q ++ (4, [41]) :: R')) _ = _
          rw [i1 1 o o' q (Q ++ S2) y (by omega) (by omega) ho hg1 (by omega) hy, bnd_o, i6 o o' (Q ++ S2) S2 k ho (hg1.suf hsu1) (by omega) hm, bnd_o]
        · rename_i hc
          rw [if_neg hc]
          obtain ⟨rfl, e⟩ := some_ok h
          have : S2 = t :: q := (List.append_cancel_right e).symm
          subst this
          rfl
end
end Go.Proofs.YtpbcncfbfbghcaaGreatDoor.L20
namespace Go.Proofs.YtpbcncfbfbghcaaGreatDoor.L20
open Mem L19
set_option linter.unusedVariables false
set_option linter.unusedSimpArgs false

/-! ### Texts without comments, ahead of a sign -/
def NoSl (l : Str) : Prop := ∀ a b, a ++ 47 :: 47 :: b ≠ l
theorem NoSl.suf {r l : Str} (h : NoSl l) (k : r <:+ l) : NoSl r := by
  obtain ⟨q, rfl⟩ := k
  intro a b e
  exact h (q ++ a) b (by rw [← e]; simp)
def SepS (c : UInt8) (b : Str) : Prop := (c = 59 ∨ c = 41) ∧ b.head? ≠ some 39
theorem fst_sepS {c : UInt8} {b : Str} (hc : SepS c b) (x : UInt8) (r : Str) : fst (x :: r ++ c :: b) = fst (x :: r) := by
  have c1 : isDg c = false ∧ isNm c = false ∧ isAl c = false ∧ (c == 39) = false := by
    rcases hc.1 with rfl | rfl <;> decide
  obtain ⟨d1, d2, d3, d4⟩ := c1
  rw [List.cons_append]
  unfold fst
  dsimp only
  have en : num (x :: (r ++ c :: b)) = num (x :: r) := by
    rw [← List.cons_append]
    unfold num
    rw [pre_sep d1]
    have hle := pre_le isDg (x :: r)
    rw [List.take_append_of_le_length hle, List.drop_append_of_le_length hle]
    have : (((x :: r).drop (pre isDg (x :: r)) ++ c :: b).head?.map isAl).getD false = (((x :: r).drop (pre isDg (x :: r))).head?.map isAl).getD false := by
      cases (x :: r).drop (pre isDg (x :: r)) with
      | nil => simpa using d3
      | cons y z => rfl
    rw [this]
  have ew : wrd (x :: (r ++ c :: b)) = wrd (x :: r) := by
    rw [← List.cons_append]
    unfold wrd
    rw [pre_sep d2, List.take_append_of_le_length (pre_le isNm (x :: r))]
  have ec : chr (x :: (r ++ c :: b)) = chr (x :: r) := by
    match r with
    | [] =>
      cases b with
      | nil => rfl
      | cons y z =>
        have : (y == 39) = false := by simpa using hc.2
        simp [chr, this]
    | [y] => simp [chr, d4]
    | y :: z :: w => rfl
  have es : sgn (x :: (r ++ c :: b)) = sgn (x :: r) := by
    have hs : sgl (x :: (r ++ c :: b)) = sgl (x :: r) := by
      match r with
      | [] =>
        unfold sgl
        have : L19.two.contains [x, c] = false := by
          rcases hc.1 with rfl | rfl
          · have := all8 (P := fun x => !L19.two.contains [x, 59]) (by decide +kernel) x
            simpa using this
          · have := all8 (P := fun x => !L19.two.contains [x, 41]) (by decide +kernel) x
            simpa using this
        have h2 : L19.two.contains [x] = false := by simp [L19.two]
        show (if L19.two.contains [x, c] then 2 else _) = (if L19.two.contains [x] then 2 else _)
        rw [this, h2]
        rfl
      | y :: z => rfl
    unfold sgn
    rw [hs]
    rcases sgl_cases x r with ⟨y, z, rfl, _, e⟩ | ⟨_, e⟩ | e <;> rw [e] <;> rfl
  rw [en, ew, ec, es]
theorem tk_sepS {c : UInt8} {b : Str} (hc : SepS c b) : ∀ l, NoSl l → ∀ n, tk n (l ++ c :: b) = if (tk n l).2.2 = 0 then addL (tk n l).1 (tk (n + l.count 10) (c :: b)) else tk n l := by
  intro l
  induction l using lx_ind with
  | h0 => intro _ n; rw [tk_nil, if_pos rfl, List.nil_append]; rfl
  | h1 r ih =>
    intro hl n
    rw [List.cons_append, tk_ten, tk_ten, ih (hl.suf (List.suffix_cons _ _)), List.count_cons_self, show n + 1 + r.count 10 = n + (r.count 10 + 1) by omega]
  | h2 x r hx ih =>
    intro hl n
    rw [List.cons_append, tk_bl _ _ hx, tk_bl _ _ hx, ih (hl.suf (List.suffix_cons _ _)), List.count_cons_of_ne (by rcases hx with rfl | rfl <;> decide)]
  | h3 r hr ih =>
    intro hl
    exfalso
    cases r with
    | nil => cases hr
    | cons y z =>
      have : y = 47 := by simpa using hr
      subst this
      exact hl [] z rfl
  | h4 x r hs he ih =>
    intro hl n
    have hs2 : L19.Sta x (r ++ c :: b) := ⟨hs.1, hs.2.1, hs.2.2.1, fun ⟨e1, e2⟩ => hs.2.2.2 ⟨e1, by
      cases r with
      | nil => rcases hc.1 with rfl | rfl <;> simp at e2
      | cons y z => simpa using e2⟩⟩
    have hf := fst_sepS hc x r
    rw [List.cons_append] at hf ⊢
    rw [tk_tok n hs2 (by rw [hf]; exact he), tk_tok n hs he, hf, ← List.cons_append, List.drop_append_of_le_length (fst_len he).2, ih (hl.suf (List.drop_suffix _ _))]
    have hcn : (x :: r).count 10 = ((x :: r).drop (fst (x :: r)).m).count 10 := by
      conv => lhs; rw [← List.take_append_drop (fst (x :: r)).m (x :: r)]
      rw [List.count_append, (fst_form he).2, Nat.zero_add]
    rw [hcn]
    show addL _ (if (tk n _).2.2 = 0 then _ else _) = if (tk n _).2.2 = 0 then _ else _
    split
    · rw [addL_addL]; rfl
    · rfl
  | h5 x r hs he =>
    intro hl n
    have hs2 : L19.Sta x (r ++ c :: b) := ⟨hs.1, hs.2.1, hs.2.2.1, fun ⟨e1, e2⟩ => hs.2.2.2 ⟨e1, by
      cases r with
      | nil => rcases hc.1 with rfl | rfl <;> simp at e2
      | cons y z => simpa using e2⟩⟩
    have hf := fst_sepS hc x r
    rw [List.cons_append] at hf ⊢
    rw [tk_bad n hs2 (by rw [hf]; exact he), tk_bad n hs he, hf, if_neg he]
/-- A sign of one byte that merges with nothing. -/
theorem tk_sign {c : UInt8} (h : c ∈ ([40, 41, 59, 125] : List UInt8)) (n : Nat) (X : Str) : tk n (c :: X) = addL [(4, [c], n)] (tk n X) := by
  have key : ones.contains c = true ∧ (∀ b, Nx 4 [c] b) := by
    simp at h
    refine ⟨by rcases h with rfl | rfl | rfl | rfl <;> decide, fun b => ⟨fun h3 => by omega, fun _ d hd => ?_⟩⟩
    injection hd with hd _
    subst hd
    rcases h with rfl | rfl | rfl | rfl <;> simp [L19.two]
  obtain ⟨f1, d, r, e, hs⟩ := fst_next (s1 c key.1) X (fun b q _ => key.2 b)
  have e : c :: X = d :: r := e
  injection e with e1 e2
  subst e1 e2
  have f1 : fst (c :: X) = good 4 [c] 1 := f1
  rw [tk_tok n hs (by rw [f1]; rfl), f1]
  rfl
/-- A formatted beginning, ahead of any text. -/
theorem lex_pre : ∀ (l : List It) (p : Option Tk) n (X : Str), Adj p l → (∀ x, l.getLast? = some x → x = .sp) → (∀ x ∈ l, x ≠ .nl) → tk n (txt l ++ X) = addL (lnT n l) (tk n X)
  | [], _, n, X, _, _, _ => rfl
  | .sp :: r, p, n, X, h, he, hn => by
    rw [Adj] at h
    have he' : ∀ x, r.getLast? = some x → x = .sp := fun x hx => he x (by rw [List.getLast?_cons, hx]; rfl)
    rw [txt, List.cons_append, tk_bl _ _ (.inl rfl), lex_pre r none n X h he' (fun x hx => hn x (List.mem_cons_of_mem _ hx))]
    rfl
  | .nl :: r, p, n, X, h, he, hn => absurd rfl (hn .nl List.mem_cons_self)
  | .t k T :: r, p, n, X, h, he, hn => by
    rw [Adj] at h
    obtain ⟨h1, _, h3⟩ := h
    have hr : r ≠ [] := by
      rintro rfl
      have := he (.t k T) rfl
      cases this
    have he' : ∀ x, r.getLast? = some x → x = .sp := fun x hx => he x (by rw [List.getLast?_cons, hx]; rfl)
    have hs : ∀ b q, txt r ++ X = b :: q → Nx k T b := by
      intro b q e
      cases r with
      | nil => exact absurd rfl hr
      | cons x r' =>
        cases x with
        | sp => rw [txt, List.cons_append] at e; injection e with e _; exact nx_blank _ _ _ (.inl e.symm)
        | nl => rw [txt, List.cons_append] at e; injection e with e _; exact nx_blank _ _ _ (.inr e.symm)
        | t k' T' =>
          rw [Adj] at h3
          obtain ⟨c, q', e'⟩ := tk1_ne h3.1
          rw [txt, e', List.cons_append, List.cons_append] at e
          injection e with e _
          subst e
          exact nx_of (a := (k, T)) (b := (k', T')) (h3.2.1 (k, T) rfl) h3.1 c q' e'
    obtain ⟨f1, c, q, e, hsta⟩ := fst_next h1 (txt r ++ X) hs
    rw [txt, List.append_assoc]
    rw [e] at f1 ⊢
    rw [tk_tok _ hsta (by rw [f1]; rfl), f1]
    show addL [(k, T, n)] (tk n ((c :: q).drop T.length)) = _
    rw [← e, List.drop_left' rfl, lex_pre r (some (k, T)) n X h3 he' (fun x hx => hn x (List.mem_cons_of_mem _ hx)), addL_addL]
    rfl
theorem adj_pre : Adj none preI := by
  show Adj none (.t 3 kFunc :: .sp :: .t 2 kMain :: .t 4 [40] :: .t 4 [41] :: .sp :: .t 4 [123] :: .sp :: .t 2 [120] :: .sp :: .t 4 [61] :: .sp :: [])
  rw [Adj, Adj, Adj]
  refine ⟨k_func, no_prev, name_main, no_prev, adj_sign (s1 40 (by decide)) (fun a e => by injection e with e; subst e; exact .inl ⟨by show 2 ≤ 3; decide, rfl⟩) ?_⟩
  refine adj_sign (s1 41 (by decide)) (fun a e => by injection e with e; subst e; exact .inr ⟨rfl, .inl (by decide)⟩) ?_
  rw [Adj]
  refine adj_sign (s1 123 (by decide)) no_prev ?_
  rw [Adj, Adj, Adj]
  refine ⟨name_one 120 (by decide) (by decide), no_prev, adj_sign (s1 61 (by decide)) no_prev ?_⟩
  rw [Adj, Adj]
  trivial
theorem tk_body (X : Str) : tk 1 (txt preI ++ X) = addL (lnT 1 preI) (tk 1 X) := lex_pre preI none 1 X adj_pre (by intro x hx; simp [preI] at hx; exact hx.symm) (by intro x hx; simp [preI] at hx; rintro rfl; simp at hx)
theorem bod_eq (s : Str) : bod s = txt preI ++ (s ++ [59, 32, 125]) := by
  unfold bod
  simp [txt, preI, kMain]
theorem tk_post (n : Nat) : tk n [59, 32, 125] = ([(4, [59], n), (4, [125], n)], 0, 0) := by
  rw [tk_sign (by decide), tk_bl _ _ (.inl rfl), tk_sign (by decide), tk_nil]
  rfl
theorem tk_opens : ∀ (k n : Nat) (X : Str), tk n (List.replicate k 40 ++ X) = addL (List.replicate k (4, [40], n)) (tk n X)
  | 0, n, X => rfl
  | k + 1, n, X => by rw [List.replicate_succ, List.cons_append, tk_sign (by decide), tk_opens k n X, addL_addL]; rfl
theorem tk_closes : ∀ (k n : Nat) (X : Str), tk n (List.replicate k 41 ++ X) = addL (List.replicate k (4, [41], n)) (tk n X)
  | 0, n, X => rfl
  | k + 1, n, X => by rw [List.replicate_succ, List.cons_append, tk_sign (by decide), tk_closes k n X, addL_addL]; rfl
theorem pairs_pre : pairs (lnT 1 preI) = pretok := rfl
theorem pairs_rep (k : Nat) (a : Str) (n : Nat) : pairs (List.replicate k (4, a, n)) = List.replicate k (4, a) := by unfold pairs; rw [List.map_replicate]
/-- The tokens of such a body. -/
theorem ans_bod {s : Str} (hs : s.length ≤ 1000) (hn : NoSl s) (h0 : (ans (bod s)).2.2 = 0) : (tk 1 s).2.2 = 0 ∧ pairs (ans (bod s)).1 = pretok ++ (pairs (tk 1 s).1 ++ [(4, [59]), (4, [125])]) := by
  have hlen : (bod s).length ≤ 60000 := by unfold bod; simp; omega
  have hb := tk_body (s ++ [59, 32, 125])
  rw [← bod_eq] at hb
  have hsep := tk_sepS (c := 59) (b := [32, 125]) ⟨.inl rfl, by decide⟩ s hn 1
  rw [ans_eq hlen, hb] at h0 ⊢
  rw [hsep] at h0 ⊢
  by_cases h : (tk 1 s).2.2 = 0
  · rw [if_pos h, tk_post]
    refine ⟨h, ?_⟩
    show pairs (if (0 : Nat) = 0 then (((lnT 1 preI) ++ ((tk 1 s).1 ++ [(4, [59], 1 + s.count 10), (4, [125], 1 + s.count 10)]), 0, 0) : Res) else _).1 = _
    rw [if_pos rfl]
    show pairs ((lnT 1 preI) ++ ((tk 1 s).1 ++ [(4, [59], 1 + s.count 10), (4, [125], 1 + s.count 10)])) = _
    rw [pairs_app, pairs_app, pairs_pre]
    rfl
  · rw [if_neg h] at h0
    exfalso
    have e : (addL (lnT 1 preI) (tk 1 s)).2 = (tk 1 s).2 := rfl
    rw [e, if_neg h] at h0
    exact h h0
theorem ans_par {s : Str} (hs : s.length ≤ 1000) (hn : NoSl s) (h0 : (tk 1 s).2.2 = 0) {k : Nat} (hk : k ≤ 29) :
    (ans (bod (List.replicate (k + 1) 40 ++ s ++ List.replicate (k + 1) 41))).2.2 = 0 ∧ pairs (ans (bod (List.replicate (k + 1) 40 ++ s ++ List.replicate (k + 1) 41))).1 = pretok ++ (List.replicate (k + 1) (4, [40]) ++ (pairs (tk 1 s).1 ++ (List.replicate (k + 1) (4, [41]) ++ [(4, [59]), (4, [125])]))) := by
  have hlen : (bod (List.replicate (k + 1) 40 ++ s ++ List.replicate (k + 1) 41)).length ≤ 60000 := by unfold bod; simp; omega
  have hb := tk_body (List.replicate (k + 1) 40 ++ s ++ List.replicate (k + 1) 41 ++ [59, 32, 125])
  rw [← bod_eq] at hb
  have e1 : List.replicate (k + 1) 40 ++ s ++ List.replicate (k + 1) 41 ++ [59, 32, 125] = List.replicate (k + 1) 40 ++ (s ++ 41 :: (List.replicate k 41 ++ [59, 32, 125])) := by
    rw [List.replicate_succ (n := k) (a := (41 : UInt8))]
    simp
  have hsep := tk_sepS (c := 41) (b := List.replicate k 41 ++ [59, 32, 125]) ⟨.inr rfl, by cases k <;> simp [List.replicate_succ]⟩ s hn 1
  have e2 : (41 :: (List.replicate k 41 ++ [59, 32, 125]) : Str) = List.replicate (k + 1) 41 ++ [59, 32, 125] := by rw [List.replicate_succ]; rfl
  rw [e1, tk_opens, hsep, if_pos h0, e2, tk_closes, tk_post] at hb
  rw [ans_eq hlen, hb]
  constructor
  · rfl
  · show pairs ((lnT 1 preI) ++ (List.replicate (k + 1) (4, [40], 1) ++ ((tk 1 s).1 ++ (List.replicate (k + 1) (4, [41], 1 + s.count 10) ++ [(4, [59], 1 + s.count 10), (4, [125], 1 + s.count 10)])))) = _
    rw [pairs_app, pairs_app, pairs_app, pairs_app, pairs_pre, pairs_rep, pairs_rep]
    rfl

/-! ### Signs stand in the text -/
theorem fst_sign {l : Str} (h : (fst l).e = 0) (k : (fst l).k = 4) : (fst l).T = l.take (fst l).m := by
  cases l with
  | nil => simp [fst, L19.bad] at h
  | cons c r =>
    unfold fst at h k ⊢
    dsimp only at h k ⊢
    by_cases h1 : isDg c = true
    · rw [if_pos h1] at h k ⊢
      exfalso
      unfold num at h k
      split at h
      · simp [L19.bad] at h
      · rename_i hA
        rw [if_neg hA] at k
        split at h
        · simp [L19.bad] at h
        · rename_i hB
          rw [if_neg hB] at k
          simp [good] at k
    rw [if_neg h1] at h k ⊢
    by_cases h2 : isLt c = true
    · rw [if_pos h2] at h k ⊢
      exfalso
      unfold wrd at h k
      split at h
      · simp [L19.bad] at h
      · rename_i hA
        rw [if_neg hA] at k
        have : ∀ T, wkind T ≠ 4 := fun T => by unfold wkind; split <;> simp
        exact this _ k
    rw [if_neg h2] at h k ⊢
    by_cases h3 : (c == 39) = true
    · rw [if_pos h3] at h k ⊢
      exfalso
      match r, h, k with
      | [], h, k => simp [chr, L19.bad] at h
      | [_], h, k => simp [chr, L19.bad] at h
      | x :: y :: z, h, k =>
        unfold chr at h k
        dsimp only at h k
        split at h
        · rename_i hA
          rw [if_pos hA] at k
          simp [good] at k
        · simp [L19.bad] at h
    · rw [if_neg h3] at h k ⊢
      unfold sgn at h k ⊢
      split at h
      · simp [L19.bad] at h
      · rename_i hA
        rw [if_neg hA]
        rfl
theorem sign_mem (l : Str) : ∀ n, ∀ t ∈ (tk n l).1, t.1 = 4 → ∀ c ∈ t.2.1, c ∈ l := by
  induction l using lx_ind with
  | h0 => intro n t ht; cases ht
  | h1 r ih => intro n t ht h4 c hc; rw [tk_ten] at ht; exact List.mem_cons_of_mem _ (ih _ t ht h4 c hc)
  | h2 x r hx ih => intro n t ht h4 c hc; rw [tk_bl _ _ hx] at ht; exact List.mem_cons_of_mem _ (ih _ t ht h4 c hc)
  | h3 r hr ih =>
    intro n t ht h4 c hc
    rw [tk_cm _ _ hr] at ht
    exact List.mem_cons_of_mem _ ((List.dropWhile_sublist _).subset (ih _ t ht h4 c hc))
  | h4 x r hs he ih =>
    intro n t ht h4 c hc
    rw [tk_tok _ hs he] at ht
    rcases List.mem_append.1 ht with ht | ht
    · rw [List.mem_singleton.1 ht] at h4 hc
      rw [fst_sign he h4] at hc
      exact List.mem_of_mem_take hc
    · exact List.mem_of_mem_drop (ih _ t ht h4 c hc)
  | h5 x r hs he => intro n t ht; rw [tk_bad _ hs he] at ht; cases ht
theorem no_sign {s : Str} {c : UInt8} (hc : c ∉ s) (hu : isLt c = false) : ∀ (S : List Tk), S <:+ pairs (tk 1 s).1 → ∀ w, sg [c] (S ++ w) = true → S = []
  | [], _, w, _ => rfl
  | (k, T) :: q, hS, w, h => by
    exfalso
    have hm : (k, T) ∈ pairs (tk 1 s).1 := hS.subset List.mem_cons_self
    obtain ⟨u, hu', e⟩ := List.mem_map.1 hm
    injection e with e1 e2
    have h : ((k == 4 || k == 3) && T == [c]) = true := h
    simp only [Bool.and_eq_true, Bool.or_eq_true, beq_iff_eq] at h
    obtain ⟨hk, hT⟩ := h
    rcases hk with hk | hk
    · exact hc (sign_mem s 1 u hu' (e1.trans hk) c (by rw [e2, hT]; simp))
    · have hf := ((tk_form s 1).1 u hu').1
      rw [e1, e2, hk, hT] at hf
      generalize h3 : (3 : Nat) = j at hf
      generalize hX : [c] = X at hf
      cases hf with
      | num => omega
      | wrd c' r' h1 =>
        injection hX with hX _
        subst hX
        rw [hu] at h1
        cases h1
      | one => omega
      | two => omega
/-- What is left behind the expression. -/
theorem suf_sc {S w t : List Tk} (h : t <:+ S ++ w) (hl : w.length ≤ t.length) : ∃ Q, t = Q ++ w ∧ Q <:+ S := by
  obtain ⟨q, hq⟩ := h
  have h1 : q.length ≤ S.length := by
    have := congrArg List.length hq
    simp only [List.length_append] at this
    omega
  have h2 := congrArg (List.drop q.length) hq
  rw [List.drop_left' rfl, List.drop_append_of_le_length h1] at h2
  exact ⟨S.drop q.length, h2, List.drop_suffix _ _⟩
/-- How the body of such a text was read. -/
theorem main_read {s : Str} (h59 : (59 : UInt8) ∉ s) (h125 : (125 : UInt8) ∉ s) {p : Prog} {n : Nat} (hg : Good (pretok ++ (pairs (tk 1 s).1 ++ [(4, [59]), (4, [125])]))) (h : prog n Prog.nil (pretok ++ (pairs (tk 1 s).1 ++ [(4, [59]), (4, [125])])) = some (.ok p [])) :
    ∃ m x, expr m 1 1 (pairs (tk 1 s).1 ++ [(4, [59]), (4, [125])]) = some (.ok x [(4, [59]), (4, [125])]) ∧ p = assigned x := by
  obtain ⟨S, hS⟩ : ∃ S, pairs (tk 1 s).1 = S := ⟨_, rfl⟩
  have ns59 := fun S' (h : S' <:+ S) w => no_sign h59 (by decide) S' (by rw [hS]; exact h) w
  have ns125 := fun S' (h : S' <:+ S) w => no_sign h125 (by decide) S' (by rw [hS]; exact h) w
  rw [hS] at hg h ⊢
  have hg1 : Good ((2, [120]) :: (4, [61]) :: (S ++ [(4, [59]), (4, [125])])) := hg.suf ⟨[(3, kFunc), (2, kMain), (4, [40]), (4, [41]), (4, [123])], rfl⟩
  have hg2 : Good (S ++ [(4, [59]), (4, [125])]) := hg1.suf ⟨[(2, [120]), (4, [61])], rfl⟩
  cases n with
  | zero => rw [prog] at h; cases h
  | succ n =>
    rw [prog, if_neg (by simp [pretok]), if_neg (by simp [pretok, sg]), if_neg (by simp [pretok, sg]), if_pos (by simp [pretok, sg])] at h
    obtain ⟨f, t1, hf, h⟩ := bnd_ok h
    unfold func pretok at hf
    have hf : bnd (some (name ((2, kMain) :: (4, [40]) :: (4, [41]) :: (4, [123]) :: (2, [120]) :: (4, [61]) :: (S ++ [(4, [59]), (4, [125])])))) _ = some (.ok f t1) := hf
    rw [name_o, bnd_o, enter_o (by decide), bnd_o] at hf
    unfold prms at hf
    rw [if_pos (sg_self _ _), bnd_o, want_o, bnd_o, enter_o (by decide), bnd_o] at hf
    obtain ⟨l, t6, hl, hf⟩ := bnd_ok hf
    have hl2 : l = [] ∧ t6 = (2, [120]) :: (4, [61]) :: (S ++ [(4, [59]), (4, [125])]) := by
      cases n with
      | zero => rw [lcls] at hl; cases hl
      | succ n =>
        rw [lcls, if_neg (by simp [sg])] at hl
        obtain ⟨a, b⟩ := some_ok hl
        exact ⟨a.symm, b.symm⟩
    obtain ⟨rfl, rfl⟩ := hl2
    obtain ⟨b, t7, hb, hf⟩ := bnd_ok hf
    obtain ⟨_, t8, hw, hf⟩ := bnd_ok hf
    obtain ⟨w1, rfl⟩ := want_ok hw
    obtain ⟨rfl, rfl⟩ := some_ok hf
    cases n with
    | zero => rw [stms] at hb; cases hb
    | succ n =>
      rw [stms, if_neg (by simp [sg])] at hb
      obtain ⟨st, u1, hst, hb⟩ := bnd_ok hb
      obtain ⟨m, u2, hm, hb⟩ := bnd_ok hb
      obtain ⟨rfl, rfl⟩ := some_ok hb
      cases n with
      | zero => rw [stm] at hst; cases hst
      | succ n =>
        rw [stm, if_neg (by simp [sg]), if_neg (by simp [sg]), if_neg (by simp [sg]), if_neg (by simp [sg]), name_o, bnd_o, if_neg (by simp [sg]), if_neg (by simp [sg]), want_o, bnd_o] at hst
        obtain ⟨x, v1, hx, hst⟩ := bnd_ok hst
        obtain ⟨_, v2, hv, hst⟩ := bnd_ok hst
        obtain ⟨w2, rfl⟩ := want_ok hv
        obtain ⟨rfl, rfl⟩ := some_ok hst
        have hsx := (su1 n).1 _ _ _ _ _ hx
        -- a semicolon: only the one behind the expression
        have hv1 : v1 = [(4, [59]), (4, [125])] := by
          rcases Nat.lt_or_ge v1.length 2 with hlt | hge
          · exfalso
            have : v1 <:+ [(4, [59]), (4, [125])] ∨ True := .inr trivial
            obtain ⟨q, hq⟩ := hsx
            have hl := congrArg List.length hq
            simp only [List.length_append, List.length_cons, List.length_nil] at hl
            have hv : v1 = [(4, [125])] ∨ v1 = [] := by
              have h2 := congrArg (List.drop q.length) hq
              rw [List.drop_left' rfl, List.drop_append] at h2
              have hd : S.drop q.length = [] := List.drop_of_length_le (by omega)
              rw [hd, List.nil_append] at h2
              rcases Nat.lt_or_ge (q.length - S.length) 2 with h3 | h3
              · have : q.length - S.length = 1 := by omega
                rw [this] at h2
                exact .inl h2
              · exact .inr (by rw [h2]; exact List.drop_of_length_le h3)
            rcases hv with rfl | rfl
            · simp [sg] at w2
            · cases w2
          · obtain ⟨Q, rfl, hQ⟩ := suf_sc hsx hge
            have := ns59 Q hQ _ w2
            rw [this]
            rfl
        subst hv1
        have hm2 : m = [] ∧ u2 = [(4, [125])] := by
          rw [stms, if_pos (by exact sg_self [125] [])] at hm
          obtain ⟨a, b⟩ := some_ok hm
          exact ⟨a.symm, b.symm⟩
        obtain ⟨rfl, rfl⟩ := hm2
        refine ⟨n, x, hx, ?_⟩
        have h : prog (n + 1 + 1) _ [] = some (.ok p []) := h
        rw [prog, if_pos rfl] at h
        obtain ⟨rfl, _⟩ := some_ok h
        rfl
theorem par_many {S : List Tk} {x : Exp} (h : ∀ o R', o + S.length ≤ 100 → E 1 o (S ++ (4, [41]) :: R') (.ok x ((4, [41]) :: R'))) : ∀ k o (R' : List Tk), o + k + S.length ≤ 100 → E 1 o (List.replicate k (4, [40]) ++ (S ++ (List.replicate k (4, [41]) ++ (4, [41]) :: R'))) (.ok x ((4, [41]) :: R'))
  | 0, o, R', ho => h o R' (by omega)
  | k + 1, o, R', ho => by
    have ih := par_many h k (o + 1) ((4, [41]) :: R') (by omega)
    have hc : Fol 1 ((4, [41]) :: R') := Fol.sign (by decide) (by decide) (by decide) (Nat.le_refl _) R'
    have e : List.replicate (k + 1) (4, [41]) ++ (4, [41]) :: R' = List.replicate k (4, [41]) ++ (4, [41]) :: (4, [41]) :: R' := by
      rw [List.replicate_succ', List.append_assoc]
      rfl
    rw [e, List.replicate_succ (n := k) (a := ((4 : Nat), ([40] : Str)))]
    exact E.to (by omega) (Nat.le_refl _) (E.unary (U.p (.inr (.inr rfl)) (P.par (by omega) ih))) hc
/-- ParserParentheses. -/
theorem parens {s : Str} (hs : s.length ≤ 60) (hn : NoSl s) (h59 : (59 : UInt8) ∉ s) (h125 : (125 : UInt8) ∉ s) {p : Prog} {l e : Nat} (h : parse (bod s) = (p, l, e)) (he : e = 0) {k : Nat} (hk : k ≤ 29) :
    parse (bod (List.replicate (k + 1) 40 ++ s ++ List.replicate (k + 1) 41)) = (p, 0, 0) := by
  obtain ⟨h0, hw, _, _, n, hp⟩ := parse_ok h he
  obtain ⟨t0, hpr⟩ := ans_bod (by omega) hn h0
  have hg := good_ans (bod s)
  rw [hpr] at hp hg
  obtain ⟨m, x, hx, rfl⟩ := main_read h59 h125 hg hp
  obtain ⟨a0, a1⟩ := ans_par (by omega) hn t0 hk
  have hg2 := good_ans (bod (List.replicate (k + 1) 40 ++ s ++ List.replicate (k + 1) 41))
  have hgS : Good (pairs (tk 1 s).1 ++ (4, [59]) :: [(4, [125])]) := hg.suf ⟨pretok, rfl⟩
  have hSl : (pairs (tk 1 s).1).length ≤ 60 := by
    have := (tk_bound s 1).1
    unfold pairs
    rw [List.length_map]
    omega
  have hsw : ∀ o R', o + (pairs (tk 1 s).1).length ≤ 100 → E 1 o (pairs (tk 1 s).1 ++ (4, [41]) :: R') (.ok x ((4, [41]) :: R')) := fun o R' ho =>
    ⟨m, (swap1 [(4, [125])] R' m).1 1 1 o (pairs (tk 1 s).1) [] x (by omega) (by omega) (by omega) hgS ho hx⟩
  have hmany := par_many hsw k 2 [(4, [59]), (4, [125])] (by omega)
  have hout := E.to (a := 1) (by omega) (Nat.le_refl _) (E.unary (U.p (.inr (.inr rfl)) (P.par (by decide) hmany))) (fol_sc [(4, [125])])
  have e2 : ((4, [40]) :: (List.replicate k (4, [40]) ++ (pairs (tk 1 s).1 ++ (List.replicate k (4, [41]) ++ (4, [41]) :: [(4, [59]), (4, [125])]))) : List Tk) = List.replicate (k + 1) (4, [40]) ++ (pairs (tk 1 s).1 ++ (List.replicate (k + 1) (4, [41]) ++ [(4, [59]), (4, [125])])) := by
    rw [List.replicate_succ (n := k) (a := ((4 : Nat), ([40] : Str))), List.replicate_succ' (n := k) (a := ((4 : Nat), ([41] : Str)))]
    simp
  rw [e2] at hout
  obtain ⟨q, hq⟩ := main_ok (R := []) hout rfl
  unfold parse
  rw [if_pos a0]
  unfold parseT
  rw [← a1] at hq
  rw [parseT_of hg2 hq]
end Go.Proofs.YtpbcncfbfbghcaaGreatDoor.L20
namespace Go.Proofs.YtpbcncfbfbghcaaGreatDoor.L20
open Mem L19
set_option linter.unusedVariables false
set_option linter.unusedSimpArgs false

def joinI : List Tk → List It
  | [] => []
  | [a] => [.t a.1 a.2]
  | a :: b :: r => .t a.1 a.2 :: .nl :: joinI (b :: r)
def joinL : List Str → Str
  | [] => []
  | [a] => a
  | a :: b :: r => a ++ 10 :: joinL (b :: r)
theorem txt_join : ∀ l : List Tk, txt (joinI l) = joinL (l.map (·.2))
  | [] => rfl
  | [a] => by simp [joinI, txt, joinL]
  | a :: b :: r => by rw [joinI, txt, txt, txt_join (b :: r)]; rfl
theorem tks_join : ∀ l : List Tk, tks (joinI l) = l
  | [] => rfl
  | [a] => rfl
  | a :: b :: r => by rw [joinI, tks, tks, tks_join (b :: r)]
theorem adj_join : ∀ l : List Tk, Good l → Adj none (joinI l)
  | [], _ => by rw [joinI, Adj]; trivial
  | [a], h => by rw [joinI, Adj]; exact ⟨h a List.mem_cons_self, no_prev, by rw [Adj]; trivial⟩
  | a :: b :: r, h => by
    rw [joinI, Adj, Adj]
    exact ⟨h a List.mem_cons_self, no_prev, adj_join (b :: r) fun t ht => h t (List.mem_cons_of_mem _ ht)⟩
theorem line_join : ∀ (l : List Tk) n, ∀ t ∈ lnT n (joinI l), t.2.2 + 1 ≤ n + l.length
  | [], n, t, h => by cases h
  | [a], n, t, h => by
    have : t = (a.1, a.2, n) := by simpa [joinI, lnT] using h
    subst this
    simp
  | a :: b :: r, n, t, h => by
    rw [joinI, lnT, lnT] at h
    rcases List.mem_cons.1 h with rfl | h
    · simp only [List.length_cons]; omega
    · have := line_join (b :: r) (n + 1) t h
      simp only [List.length_cons] at this ⊢
      omega
theorem lineAt_le {l : List Tok} {B : Nat} (h : ∀ t ∈ l, t.2.2 ≤ B) (rest : Nat) : lineAt l rest ≤ B := by
  unfold lineAt
  split
  · rename_i t r e
    exact h t ((List.drop_sublist _ _).subset (by rw [e]; exact List.mem_cons_self))
  · cases e : l.getLast? with
    | none => simp
    | some t => exact h t (List.mem_of_getLast? e)
theorem joinL_len : ∀ l : List Tk, (joinL (l.map (·.2))).length ≤ (l.map fun t => t.2.length + 1).sum
  | [] => by simp [joinL]
  | [a] => by simp [joinL]
  | a :: b :: r => by
    have := joinL_len (b :: r)
    simp only [List.map_cons, joinL, List.length_append, List.length_cons, List.sum_cons] at this ⊢
    omega
theorem rt_sum : ∀ l : List Tok, (rt l).length = (l.map fun t => t.2.1.length + 1).sum
  | [] => rfl
  | t :: r => by rw [rt_cons, List.map_cons, List.sum_cons, rt_sum r]
theorem layout_parse {src : Str} (hs : src.length ≤ 1500) (h0 : (ans src).2.2 = 0) : (parse (joinL ((pairs (ans src).1).map (·.2)))).1 = (parse src).1 ∧ (parse (joinL ((pairs (ans src).1).map (·.2)))).2.2 = (parse src).2.2 ∧ (parse (joinL ((pairs (ans src).1).map (·.2)))).2.1 ≤ (ans src).1.length := by
  have hg := good_ans src
  have hb := (ans_bound src).2.2.2.2
  obtain ⟨l, hl⟩ : ∃ l, (ans src).1 = l := ⟨_, rfl⟩
  rw [hl] at hg hb ⊢
  have hlen : (joinL ((pairs l).map (·.2))).length ≤ 60000 := by
    have h1 := joinL_len (pairs l)
    have h2 := rt_sum l
    have h3 : ((pairs l).map fun t => t.2.length + 1) = l.map fun t => t.2.1.length + 1 := by unfold pairs; rw [List.map_map]; rfl
    rw [h3] at h1
    omega
  rw [← txt_join] at hlen ⊢
  have ha : ans (txt (joinI (pairs l))) = (lnT 1 (joinI (pairs l)), 0, 0) := by rw [ans_eq hlen, lex_items _ none 1 (adj_join _ hg)]; rfl
  have hpl : (pairs l).length = l.length := List.length_map _
  have hp : pairs (lnT 1 (joinI (pairs l))) = pairs l := by rw [pairs_lnT, tks_join]
  have hle : ∀ t ∈ lnT 1 (joinI (pairs l)), t.2.2 ≤ l.length := fun t ht => by have := line_join (pairs l) 1 t ht; omega
  unfold parse
  rw [ha, if_pos rfl, if_pos h0, hl]
  unfold parseT
  rw [hp]
  cases e : prog (fuel (pairs l)) Prog.nil (pairs l) with
  | none => exact ⟨rfl, rfl, Nat.zero_le _⟩
  | some v =>
    cases v with
    | ok p r => exact ⟨rfl, rfl, Nat.zero_le _⟩
    | bad c r => exact ⟨rfl, rfl, lineAt_le hle _⟩
end Go.Proofs.YtpbcncfbfbghcaaGreatDoor.L20
