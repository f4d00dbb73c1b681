/- Programs without jumps: what spaces change. No program is named here. -/
import Derived.Test.YtfdlgdgjbfoogaaM17Lin
namespace Go.Proofs.Ytfdlgdgjbfoogaa.M17
set_option linter.unusedVariables false
set_option linter.unusedSimpArgs false

/-- No jump, no access of memory. -/
def Pl (c : Nat) : Prop := c ≠ 33 ∧ c ≠ 58 ∧ c ≠ 59 ∧ c ≠ 63 ∧ c ≠ 64
def Res.re (m : Nat → Nat) (p : Nat) : Res → Res
  | .go s => .go { s with mem := m, pc := p }
  | .halt => .halt
  | .trap => .trap
theorem exec_re {c : Nat} (h : Pl c) (m m' : Nat → Nat) (p p' : Nat) (ds cs : List Nat) (dig : Bool) (inp : List Nat) (out : List UInt8) :
    exec c ⟨m, p, ds, cs, dig, inp, out⟩ = (exec c ⟨m', p', ds, cs, dig, inp, out⟩).re m p := by
  obtain ⟨h1, h2, h3, h4, h5⟩ := h
  unfold exec
  dsimp only
  rw [if_neg h5, if_neg h2, if_neg h3, if_neg h5, if_neg h2, if_neg h3]
  by_cases hd : 48 ≤ c ∧ c ≤ 57
  · rw [if_pos hd, if_pos hd]
    cases dig
    · simp only [Bool.false_eq_true, if_false]
      split <;> rfl
    · simp only [if_true]
      cases ds <;> rfl
  rw [if_neg hd, if_neg hd]
  by_cases hs : c = 32 ∨ c = 10
  · rw [if_pos hs, if_pos hs]; rfl
  rw [if_neg hs, if_neg hs]
  by_cases hh : c = 36
  · rw [if_pos hh, if_pos hh]; rfl
  rw [if_neg hh, if_neg hh]
  by_cases hc : c = 44
  · rw [if_pos hc, if_pos hc]; split <;> rfl
  rw [if_neg hc, if_neg hc]
  by_cases hp : c = 46
  · rw [if_pos hp, if_pos hp]; cases ds <;> rfl
  rw [if_neg hp, if_neg hp]
  match ds with
  | [] => rfl
  | [_] => rfl
  | b :: a :: r =>
    dsimp only
    rw [if_neg h1, if_neg h4, if_neg h1, if_neg h4]
    cases op2 c a b <;> rfl
/-- A program from its first character on; behind it there is none. -/
def sl : List Nat → St → Out
  | [], s => ⟨s.out, 12, 1⟩
  | c :: l, s =>
    match exec c s with
    | .go s' => (sl l s').more 1
    | .halt => ⟨s.out, 0, 1⟩
    | .trap => ⟨s.out, 12, 1⟩
theorem sl_go {c : Nat} {l : List Nat} {s s' : St} (h : exec c s = .go s') : sl (c :: l) s = (sl l s').more 1 := by rw [sl, h]
theorem sl_halt {c : Nat} {l : List Nat} {s : St} (h : exec c s = .halt) : sl (c :: l) s = ⟨s.out, 0, 1⟩ := by unfold sl; rw [h]
theorem sl_trap {c : Nat} {l : List Nat} {s : St} (h : exec c s = .trap) : sl (c :: l) s = ⟨s.out, 12, 1⟩ := by unfold sl; rw [h]
theorem sl_re : ∀ (l : List Nat) (m : Nat → Nat) (p : Nat) (s : St), (∀ c ∈ l, Pl c) → sl l { s with mem := m, pc := p } = sl l s
  | [], m, p, s, _ => rfl
  | c :: l, m, p, ⟨m0, p0, ds, cs, dig, inp, out⟩, h => by
    have e := exec_re (h c (by simp)) m m0 p p0 ds cs dig inp out
    cases hx : exec c ⟨m0, p0, ds, cs, dig, inp, out⟩ with
    | go s' =>
      rw [hx] at e
      rw [sl_go hx, sl_go e, sl_re l m p s' (fun c hc => h c (List.mem_cons_of_mem _ hc))]
    | halt => rw [hx] at e; rw [sl_halt hx, sl_halt e]
    | trap => rw [hx] at e; rw [sl_trap hx, sl_trap e]
theorem exec_zero (s : St) : exec 0 s = .trap := by
  obtain ⟨m, p, ds, cs, dig, inp, out⟩ := s
  match ds with
  | [] => rfl
  | [_] => rfl
  | b :: a :: r => rfl
theorem run_sl : ∀ (l : List Nat) (N : Nat) (s : St), (∀ c ∈ l, Pl c) → Has s.mem s.pc l → s.mem (s.pc + l.length) = 0 → s.pc + l.length < 262144 → l.length < N → run N s = sl l s
  | [], N, s, _, _, hz, hp, hN => by
    obtain ⟨n, rfl⟩ : ∃ n, N = n + 1 := ⟨N - 1, by simp at hN; omega⟩
    have : step s = .trap := by
      unfold step
      rw [if_neg (by simp at hp; omega), show s.mem s.pc = 0 from hz]
      exact exec_zero _
    rw [run_trap this]
    rfl
  | c :: l, N, ⟨m0, p0, ds, cs, dig, inp, out⟩, h, hm, hz, hp, hN => by
    obtain ⟨n, rfl⟩ : ∃ n, N = n + 1 := ⟨N - 1, by simp at hN; omega⟩
    dsimp only at hm hz hp
    have hst : step ⟨m0, p0, ds, cs, dig, inp, out⟩ = (exec c ⟨m0, p0, ds, cs, dig, inp, out⟩).re m0 (p0 + 1) := by
      rw [← exec_re (h c (by simp)) m0 m0 (p0 + 1) p0 ds cs dig inp out]
      unfold step
      dsimp only
      rw [if_neg (by omega), hm.head]
    have hl : ∀ c ∈ l, Pl c := fun c hc => h c (List.mem_cons_of_mem _ hc)
    cases hx : exec c ⟨m0, p0, ds, cs, dig, inp, out⟩ with
    | go s' =>
      rw [hx] at hst
      rw [sl_go hx, run_go hst, run_sl l n _ hl hm.tail (by dsimp only; rw [List.length_cons] at hz; rw [← hz]; congr 1; omega) (by dsimp only; rw [List.length_cons] at hp; omega) (by rw [List.length_cons] at hN; omega), sl_re l m0 (p0 + 1) s' hl]
    | halt => rw [hx] at hst; rw [sl_halt hx, run_halt hst]
    | trap => rw [hx] at hst; rw [sl_trap hx, run_trap hst]
/-- Two machines that differ in memory and in what was a digit. -/
structure Sim (s t : St) : Prop where
  ds : s.ds = t.ds
  cs : s.cs = t.cs
  inp : s.inp = t.inp
  out : s.out = t.out
def Dgt (c : Nat) : Prop := 48 ≤ c ∧ c ≤ 57
instance (c : Nat) : Decidable (Dgt c) := by unfold Dgt; infer_instance
theorem exec_sim {c : Nat} (h : Pl c) {s t : St} (hs : Sim s t) (hd : Dgt c → s.dig = t.dig) :
    (exec c s = .halt ∧ exec c t = .halt) ∨ (exec c s = .trap ∧ exec c t = .trap) ∨ ∃ s' t', exec c s = .go s' ∧ exec c t = .go t' ∧ Sim s' t' ∧ s'.dig = t'.dig ∧ (s'.dig = true → Dgt c) := by
  obtain ⟨m, p, ds, cs, dig, inp, out⟩ := s
  obtain ⟨m', p', ds', cs', dig', inp', out'⟩ := t
  obtain ⟨e1, e2, e3, e4⟩ := hs
  dsimp only at e1 e2 e3 e4 hd
  subst e1 e2 e3 e4
  obtain ⟨h1, h2, h3, h4, h5⟩ := h
  unfold exec
  dsimp only
  rw [if_neg h5, if_neg h2, if_neg h3, if_neg h5, if_neg h2, if_neg h3]
  by_cases hdg : 48 ≤ c ∧ c ≤ 57
  · obtain rfl := hd hdg
    rw [if_pos hdg, if_pos hdg]
    cases dig
    · simp only [Bool.false_eq_true, if_false]
      split
      · exact .inr (.inl ⟨rfl, rfl⟩)
      · exact .inr (.inr ⟨_, _, rfl, rfl, ⟨rfl, rfl, rfl, rfl⟩, rfl, fun _ => hdg⟩)
    · simp only [if_true]
      cases ds
      · exact .inr (.inl ⟨rfl, rfl⟩)
      · exact .inr (.inr ⟨_, _, rfl, rfl, ⟨rfl, rfl, rfl, rfl⟩, rfl, fun _ => hdg⟩)
  rw [if_neg hdg, if_neg hdg]
  by_cases hs : c = 32 ∨ c = 10
  · rw [if_pos hs, if_pos hs]
    exact .inr (.inr ⟨_, _, rfl, rfl, ⟨rfl, rfl, rfl, rfl⟩, rfl, fun h => by cases h⟩)
  rw [if_neg hs, if_neg hs]
  by_cases hh : c = 36
  · rw [if_pos hh, if_pos hh]; exact .inl ⟨rfl, rfl⟩
  rw [if_neg hh, if_neg hh]
  by_cases hc : c = 44
  · rw [if_pos hc, if_pos hc]
    split
    · exact .inr (.inl ⟨rfl, rfl⟩)
    · exact .inr (.inr ⟨_, _, rfl, rfl, ⟨rfl, rfl, rfl, rfl⟩, rfl, fun h => by cases h⟩)
  rw [if_neg hc, if_neg hc]
  by_cases hp : c = 46
  · rw [if_pos hp, if_pos hp]
    cases ds
    · exact .inr (.inl ⟨rfl, rfl⟩)
    · exact .inr (.inr ⟨_, _, rfl, rfl, ⟨rfl, rfl, rfl, rfl⟩, rfl, fun h => by cases h⟩)
  rw [if_neg hp, if_neg hp]
  match ds with
  | [] => exact .inr (.inl ⟨rfl, rfl⟩)
  | [_] => exact .inr (.inl ⟨rfl, rfl⟩)
  | b :: a :: r =>
    dsimp only
    rw [if_neg h1, if_neg h4, if_neg h1, if_neg h4]
    cases op2 c a b
    · exact .inr (.inl ⟨rfl, rfl⟩)
    · exact .inr (.inr ⟨_, _, rfl, rfl, ⟨rfl, rfl, rfl, rfl⟩, rfl, fun h => by cases h⟩)
/-- Spaces between instructions, not within a number. -/
def sp (k : List Nat) : List Nat → List Nat
  | [] => []
  | [x] => [x]
  | x :: y :: l => if Dgt x ∧ Dgt y then x :: sp k (y :: l) else x :: (k ++ sp k (y :: l))
theorem exec_space {c : Nat} (h : c = 32 ∨ c = 10) (s : St) : exec c s = .go { s with dig := false } := by
  obtain ⟨m, p, ds, cs, dig, inp, out⟩ := s
  unfold exec
  dsimp only
  rw [if_neg (by omega), if_pos h]
theorem sl_spaces : ∀ (k l : List Nat) (s : St), (∀ c ∈ k, c = 32 ∨ c = 10) → k ≠ [] → sl (k ++ l) s = (sl l { s with dig := false }).more k.length
  | [], l, s, _, h => absurd rfl h
  | [c], l, s, h, _ => by
    rw [List.cons_append, List.nil_append, sl_go (exec_space (h c (by simp)) s)]
    rfl
  | c :: d :: k, l, s, h, _ => by
    rw [List.cons_append, sl_go (exec_space (h c (by simp)) s), sl_spaces (d :: k) l _ (fun x hx => h x (List.mem_cons_of_mem _ hx)) (by simp)]
    unfold Out.more
    dsimp only
    rw [Nat.add_assoc]
    rfl
theorem sp_sim (k : List Nat) (hk : ∀ c ∈ k, c = 32 ∨ c = 10) (hk0 : k ≠ []) : ∀ (l : List Nat) (s t : St), (∀ c ∈ l, Pl c) → Sim s t → (∀ y ∈ l.head?, Dgt y → s.dig = t.dig) →
    (sl l s).out = (sl (sp k l) t).out ∧ (sl l s).err = (sl (sp k l) t).err ∧ (sl l s).steps ≤ (sl (sp k l) t).steps
  | [], s, t, _, hs, _ => ⟨hs.out, rfl, Nat.le_refl _⟩
  | [x], s, t, h, hs, hd => by
    rw [sp]
    rcases exec_sim (h x (by simp)) hs (hd x rfl) with ⟨a, b⟩ | ⟨a, b⟩ | ⟨s', t', a, b, hs', _, _⟩
    · rw [sl_halt a, sl_halt b]; exact ⟨hs.out, rfl, Nat.le_refl _⟩
    · rw [sl_trap a, sl_trap b]; exact ⟨hs.out, rfl, Nat.le_refl _⟩
    · rw [sl_go a, sl_go b]; exact ⟨hs'.out, rfl, Nat.le_refl _⟩
  | x :: y :: l, s, t, h, hs, hd => by
    have hl : ∀ c ∈ y :: l, Pl c := fun c hc => h c (List.mem_cons_of_mem _ hc)
    rw [sp]
    rcases exec_sim (h x (by simp)) hs (hd x rfl) with ⟨a, b⟩ | ⟨a, b⟩ | ⟨s', t', a, b, hs', hdd, hdx⟩
    · split <;> rw [sl_halt a, sl_halt b] <;> exact ⟨hs.out, rfl, Nat.le_refl _⟩
    · split <;> rw [sl_trap a, sl_trap b] <;> exact ⟨hs.out, rfl, Nat.le_refl _⟩
    · split
      · rw [sl_go a, sl_go b]
        obtain ⟨i1, i2, i3⟩ := sp_sim k hk hk0 (y :: l) s' t' hl hs' (fun _ _ _ => hdd)
        exact ⟨i1, i2, Nat.add_le_add_right i3 1⟩
      · rename_i hsep
        rw [sl_go a, sl_go b, sl_spaces k _ t' hk hk0]
        obtain ⟨i1, i2, i3⟩ := sp_sim k hk hk0 (y :: l) s' { t' with dig := false } hl ⟨hs'.ds, hs'.cs, hs'.inp, hs'.out⟩ (fun z hz hzd => by
          obtain rfl : y = z := by simpa using hz
          show s'.dig = false
          cases e : s'.dig
          · rfl
          · exact absurd ⟨hdx e, hzd⟩ hsep)
        exact ⟨i1, i2, by show _ + 1 ≤ _ + k.length + 1; omega⟩
end Go.Proofs.Ytfdlgdgjbfoogaa.M17
