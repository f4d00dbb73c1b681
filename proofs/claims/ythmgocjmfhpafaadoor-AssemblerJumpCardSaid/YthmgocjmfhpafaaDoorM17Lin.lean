/- Runs of the plain machine: more steps, straight pieces of a program, numbers. No program is named here. -/
import Derived.Test.YthmgocjmfhpafaaDoorM17Math
namespace Go.Proofs.YthmgocjmfhpafaaDoor.M17
set_option linter.unusedVariables false
set_option linter.unusedSimpArgs false

/-! ### A greater limit -/
theorem run_less : ∀ (n m : Nat) (s : St), n ≤ m → (run n s).out <+: (run m s).out ∧ (run n s).steps ≤ (run m s).steps ∧ ((run n s).err = 13 ∨ run n s = run m s)
  | 0, m, s, _ => by
    refine ⟨?_, Nat.zero_le _, .inl rfl⟩
    show s.out <+: _
    induction m generalizing s with
    | zero => exact List.prefix_refl _
    | succ m ih =>
      cases h : step s with
      | go s' =>
        rw [run_go h]
        refine List.IsPrefix.trans ?_ (ih s' (Nat.zero_le _))
        rcases step_out h with e | ⟨b, e⟩
        · rw [e]; exact List.prefix_refl _
        · rw [e]; exact List.prefix_append _ _
      | halt => rw [run_halt h]; exact List.prefix_refl _
      | trap => rw [run_trap h]; exact List.prefix_refl _
  | n + 1, 0, s, hm => by omega
  | n + 1, m + 1, s, hm => by
    cases h : step s with
    | go s' =>
      rw [run_go h, run_go h]
      obtain ⟨h1, h2, h3⟩ := run_less n m s' (by omega)
      refine ⟨h1, Nat.add_le_add_right h2 1, h3.imp id fun e => by rw [e]⟩
    | halt => rw [run_halt h, run_halt h]; exact ⟨List.prefix_refl _, Nat.le_refl _, .inr rfl⟩
    | trap => rw [run_trap h, run_trap h]; exact ⟨List.prefix_refl _, Nat.le_refl _, .inr rfl⟩
theorem run_err : ∀ (n : Nat) (s : St), (run n s).err = 0 ∨ (run n s).err = 12 ∨ (run n s).err = 13
  | 0, s => .inr (.inr rfl)
  | n + 1, s => by
    cases h : step s with
    | go s' => rw [run_go h]; exact run_err n s'
    | halt => rw [run_halt h]; exact .inl rfl
    | trap => rw [run_trap h]; exact .inr (.inl rfl)
theorem run_out_len : ∀ (n : Nat) (s : St), (run n s).out.length ≤ s.out.length + n ∧ (run n s).steps ≤ n
  | 0, s => ⟨Nat.le_refl _, Nat.le_refl _⟩
  | n + 1, s => by
    cases h : step s with
    | go s' =>
      rw [run_go h]
      obtain ⟨h1, h2⟩ := run_out_len n s'
      refine ⟨Nat.le_trans h1 ?_, Nat.add_le_add_right h2 1⟩
      rcases step_out h with e | ⟨b, e⟩
      · rw [e]; omega
      · rw [e, List.length_append]; simp; omega
    | halt => rw [run_halt h]; exact ⟨Nat.le_add_right _ _, by show 1 ≤ _; omega⟩
    | trap => rw [run_trap h]; exact ⟨Nat.le_add_right _ _, by show 1 ≤ _; omega⟩

/-- What a greater limit changes. -/
theorem ans_less (ts : List Txt) (start : Int) (inp : List Nat) {few many : Int} (h : few ≤ many) (hm : many ≤ 100000000) :
    (ans ts start inp few).out <+: (ans ts start inp many).out ∧ (ans ts start inp few).steps ≤ (ans ts start inp many).steps ∧ ((ans ts start inp few).err = 13 ∨ ans ts start inp few = ans ts start inp many) := by
  unfold ans
  split
  · exact ⟨List.prefix_refl _, Nat.le_refl _, .inr rfl⟩
  split
  · exact ⟨List.prefix_refl _, Nat.le_refl _, .inr rfl⟩
  rw [if_neg (show ¬ 100000000 < few by omega), if_neg (show ¬ 100000000 < many by omega)]
  by_cases h0 : few ≤ 0
  · rw [if_pos h0]
    exact ⟨List.nil_prefix, Nat.zero_le _, .inl rfl⟩
  · rw [if_neg h0, if_neg (show ¬ many ≤ 0 by omega)]
    exact run_less _ _ _ (by omega)
theorem ans_len (ts : List Txt) (start : Int) (inp : List Nat) (steps : Int) : (ans ts start inp steps).out.length ≤ 100000000 ∧ (ans ts start inp steps).steps ≤ 100000000 ∧ (ans ts start inp steps).err ≤ 13 := by
  unfold ans
  split
  · exact ⟨Nat.zero_le _, Nat.zero_le _, by decide⟩
  split
  · exact ⟨Nat.zero_le _, Nat.zero_le _, by decide⟩
  split
  · exact ⟨Nat.zero_le _, Nat.zero_le _, by decide⟩
  split
  · exact ⟨Nat.zero_le _, Nat.zero_le _, by decide⟩
  · obtain ⟨h1, h2⟩ := run_out_len steps.toNat (init ts start.toNat inp)
    have h3 : (init ts start.toNat inp).out.length = 0 := rfl
    refine ⟨by omega, by omega, ?_⟩
    rcases run_err steps.toNat (init ts start.toNat inp) with h | h | h <;> rw [h] <;> decide
/-! ### Steps that go on -/
/-- From s the machine comes to s' in n steps. -/
def Goes (n : Nat) (s s' : St) : Prop := ∀ k, run (n + k) s = (run k s').more n
theorem Goes.zero (s : St) : Goes 0 s s := fun k => by rw [Nat.zero_add]; rfl
theorem Goes.trans {n m : Nat} {s s' s'' : St} (h : Goes n s s') (h' : Goes m s' s'') : Goes (n + m) s s'' := fun k => by
  rw [Nat.add_assoc, h, h', more_more, Nat.add_comm m n]
theorem Goes.one {s s' : St} (h : step s = .go s') : Goes 1 s s' := fun k => by rw [Nat.add_comm, run_go h]
theorem Goes.cons {n : Nat} {s s' s'' : St} (h : step s = .go s') (h' : Goes n s' s'') : Goes (n + 1) s s'' := by
  rw [Nat.add_comm]; exact (Goes.one h).trans h'
theorem Goes.halt {n : Nat} {s s' : St} (h : Goes n s s') (e : step s' = .halt) {N : Nat} (hN : n < N) : run N s = ⟨s'.out, 0, n + 1⟩ := by
  obtain ⟨k, rfl⟩ : ∃ k, N = n + (k + 1) := ⟨N - n - 1, by omega⟩
  rw [h, run_halt e]
  show (⟨_, _, _⟩ : Out) = _
  rw [Nat.add_comm 1 n]
theorem Goes.trap {n : Nat} {s s' : St} (h : Goes n s s') (e : step s' = .trap) {N : Nat} (hN : n < N) : run N s = ⟨s'.out, 12, n + 1⟩ := by
  obtain ⟨k, rfl⟩ : ∃ k, N = n + (k + 1) := ⟨N - n - 1, by omega⟩
  rw [h, run_trap e]
  show (⟨_, _, _⟩ : Out) = _
  rw [Nat.add_comm 1 n]
/-- A program's characters from an address on. -/
def Has (m : Nat → Nat) (b : Nat) (c : List Nat) : Prop := ∀ i (h : i < c.length), m (b + i) = c[i]
theorem Has.head {m : Nat → Nat} {b x : Nat} {c : List Nat} (h : Has m b (x :: c)) : m b = x := h 0 (by simp)
theorem Has.tail {m : Nat → Nat} {b x : Nat} {c : List Nat} (h : Has m b (x :: c)) : Has m (b + 1) c := fun i hi => by
  have := h (i + 1) (by simpa using hi)
  rw [Nat.add_assoc, Nat.add_comm 1 i]
  simpa using this
theorem Has.left {m : Nat → Nat} {b : Nat} {c d : List Nat} (h : Has m b (c ++ d)) : Has m b c := fun i hi => by
  have := h i (by rw [List.length_append]; omega)
  rwa [List.getElem_append_left hi] at this
theorem Has.right {m : Nat → Nat} {b : Nat} {c d : List Nat} (h : Has m b (c ++ d)) : Has m (b + c.length) d := fun i hi => by
  have := h (c.length + i) (by rw [List.length_append]; omega)
  rw [List.getElem_append_right (by omega)] at this
  rw [Nat.add_assoc, this]
  congr 1
  omega
theorem Has.of {m m' : Nat → Nat} {b lo : Nat} {c : List Nat} (h : Has m b c) (hl : b + c.length ≤ lo) (hm : ∀ i, i < lo → m' i = m i) : Has m' b c := fun i hi => by
  rw [hm _ (by omega)]; exact h i hi

/-! ### Straight pieces -/
theorem step_at {s : St} {c : Nat} (hp : s.pc < 262144) (hc : s.mem s.pc = c) : step s = exec c { s with pc := s.pc + 1 } := by
  unfold step
  rw [if_neg (by omega), hc]
def Res.at (q : Nat) : Res → Res
  | .go s => .go { s with pc := q }
  | r => r
set_option maxHeartbeats 4000000 in
theorem exec_pc {c : Nat} (h1 : c ≠ 58) (h2 : c ≠ 59) (h3 : c ≠ 63) (s : St) (q : Nat) : exec c { s with pc := q } = (exec c s).at q := by
  obtain ⟨mem, pc, ds, cs, dig, inp, out⟩ := s
  unfold exec
  dsimp only
  split
  · split
    · cases ds <;> rfl
    · split <;> rfl
  split
  · rfl
  split
  · rfl
  split
  · cases ds with
    | nil => rfl
    | cons a r => dsimp only; split <;> rfl
  split
  · split <;> rfl
  split
  · cases ds <;> rfl
  cases ds with
  | nil => rfl
  | cons b r =>
    cases r with
    | nil => rfl
    | cons a r =>
      dsimp only
      split
      · split <;> rfl
      split <;> rfl
/-- A piece without jumps, executed; it writes to addresses from lo on alone. -/
def lin (lo : Nat) : List Nat → St → Option St
  | [], s => some s
  | c :: l, s =>
    if c = 58 ∨ c = 59 ∨ c = 63 then none
    else if c = 33 then
      match s.ds with
      | b :: a :: r => if lo ≤ b ∧ b < 262144 then lin lo l { s with ds := r, mem := upd s.mem b a, dig := false } else none
      | _ => none
    else match exec c s with
      | .go s' => lin lo l s'
      | _ => none
set_option maxHeartbeats 4000000 in
theorem exec_mem {c : Nat} (h : c ≠ 33) {s s' : St} (he : exec c s = .go s') : s'.mem = s.mem := by
  obtain ⟨mem, pc, ds, cs, dig, inp, out⟩ := s
  unfold exec at he
  dsimp only at he ⊢
  split at he
  · split at he
    · split at he
      · cases he
      · injection he with he; subst he; rfl
    · split at he
      · cases he
      · injection he with he; subst he; rfl
  split at he
  · injection he with he; subst he; rfl
  split at he
  · cases he
  split at he
  · split at he
    · cases he
    · split at he
      · cases he
      · injection he with he; subst he; rfl
  split at he
  · split at he
    · cases he
    · split at he
      · cases he
      · injection he with he; subst he; rfl
  split at he
  · split at he
    · cases he
    · injection he with he; subst he; rfl
  split at he
  · split at he
    · cases he
    · injection he with he; subst he; rfl
  split at he
  · split at he
    · cases he
    · injection he with he; subst he; rfl
  split at he
  · split at he
    · injection he with he; subst he; rfl
    split at he
    · cases he
    · injection he with he; subst he; rfl
  · cases he
theorem exec_put {s : St} {b a : Nat} {r : List Nat} (hd : s.ds = b :: a :: r) (hb : b < 262144) : exec 33 s = .go { s with ds := r, mem := upd s.mem b a, dig := false } := by
  obtain ⟨mem, pc, ds, cs, dig, inp, out⟩ := s
  dsimp only at hd
  subst hd
  unfold exec
  simp only [show ¬ 262144 ≤ b by omega]
  rfl
theorem lin_goes {lo : Nat} (hlo : lo ≤ 262144) : ∀ (l : List Nat) (s s' : St), Has s.mem s.pc l → s.pc + l.length ≤ lo → lin lo l s = some s' →
    Goes l.length s { s' with pc := s.pc + l.length } ∧ ∀ i, i < lo → s'.mem i = s.mem i
  | [], s, s', _, _, e => by
    injection e with e
    subst e
    exact ⟨Goes.zero _, fun i _ => rfl⟩
  | c :: l, s, s', hh, hl, e => by
    have hlen : (c :: l).length = l.length + 1 := rfl
    rw [hlen] at hl ⊢
    have hst := step_at (c := c) (by omega) hh.head
    unfold lin at e
    split at e
    · cases e
    rename_i hj
    rw [exec_pc (fun h => hj (.inl h)) (fun h => hj (.inr (.inl h))) (fun h => hj (.inr (.inr h)))] at hst
    split at e
    · rename_i hc
      subst hc
      split at e
      · rename_i b a r hd
        split at e
        · rename_i hb
          rw [exec_put hd hb.2] at hst
          have hm : ∀ i, i < lo → upd s.mem b a i = s.mem i := fun i hi => by
            unfold upd
            rw [if_neg (by omega)]
          obtain ⟨g, hm'⟩ := lin_goes hlo l { s with ds := r, mem := upd s.mem b a, dig := false, pc := s.pc + 1 } { s' with pc := s.pc + 1 } (Has.of (b := s.pc + 1) (lo := lo) hh.tail (show s.pc + 1 + l.length ≤ lo by omega) hm) (by dsimp only; omega) (by
            rw [lin_pc lo l { s with ds := r, mem := upd s.mem b a, dig := false } (s.pc + 1), e]; rfl)
          refine ⟨?_, fun i hi => (hm' i hi).trans (hm i hi)⟩
          have := Goes.cons hst g
          rw [show s.pc + (l.length + 1) = s.pc + 1 + l.length by omega]
          exact this
        · cases e
      · cases e
    · rename_i hc
      cases he : exec c s with
      | go s1 =>
        rw [he] at e hst
        dsimp only at e
        have hm := exec_mem hc he
        obtain ⟨g, hm'⟩ := lin_goes hlo l { s1 with pc := s.pc + 1 } { s' with pc := s.pc + 1 } (by dsimp only; rw [hm]; exact hh.tail) (by dsimp only; omega) (by
          rw [lin_pc lo l s1 (s.pc + 1), e]; rfl)
        refine ⟨?_, fun i hi => (hm' i hi).trans (by show s1.mem i = s.mem i; rw [hm])⟩
        have := Goes.cons hst g
        rw [show s.pc + (l.length + 1) = s.pc + 1 + l.length by omega]
        exact this
      | halt => rw [he] at e; cases e
      | trap => rw [he] at e; cases e
where
  lin_pc (lo : Nat) : ∀ (l : List Nat) (s : St) (q : Nat), lin lo l { s with pc := q } = (lin lo l s).map fun s' => { s' with pc := q }
  | [], s, q => rfl
  | c :: l, s, q => by
    unfold lin
    split
    · rfl
    rename_i hj
    split
    · cases hd : s.ds with
      | nil => rfl
      | cons b r =>
        cases r with
        | nil => rfl
        | cons a r =>
          dsimp only
          split
          · exact lin_pc lo l { s with ds := r, mem := upd s.mem b a, dig := false } q
          · rfl
    · rw [exec_pc (fun h => hj (.inl h)) (fun h => hj (.inr (.inl h))) (fun h => hj (.inr (.inr h)))]
      cases exec c s with
      | go s1 => exact lin_pc lo l s1 q
      | halt => rfl
      | trap => rfl
theorem lin_app {lo : Nat} : ∀ (l m : List Nat) (s : St), lin lo (l ++ m) s = (lin lo l s).bind (lin lo m)
  | [], m, s => rfl
  | c :: l, m, s => by
    rw [List.cons_append]
    unfold lin
    split
    · rfl
    split
    · split
      · split
        · exact lin_app l m _
        · rfl
      · rfl
    · split
      · exact lin_app l m _
      · rfl

/-! ### Numbers -/
/-- The digits of a number. -/
def digs (n : Nat) : List Nat := if n < 10 then [48 + n] else digs (n / 10) ++ [48 + n % 10]
theorem digs_len : ∀ (k n : Nat), n < 10 ^ (k + 1) → (digs n).length ≤ k + 1
  | 0, n, h => by rw [digs, if_pos (by simpa using h)]; simp
  | k + 1, n, h => by
    rw [digs]
    split
    · simp
    · rw [List.length_append]
      have := digs_len k (n / 10) (by rw [Nat.pow_succ] at h; omega)
      simpa using this
theorem digs_pos (n : Nat) : 0 < (digs n).length := by
  rw [digs]
  split <;> simp
theorem digs_range : ∀ (n : Nat), ∀ c ∈ digs n, 48 ≤ c ∧ c ≤ 57 := by
  intro n
  induction n using Nat.strongRecOn with
  | _ n ih =>
    intro c hc
    rw [digs] at hc
    split at hc
    · rw [List.mem_singleton] at hc; omega
    · rcases List.mem_append.1 hc with hc | hc
      · exact ih (n / 10) (by omega) c hc
      · rw [List.mem_singleton] at hc; omega
theorem exec_digit {s : St} {d : Nat} (hd : d < 10) (h : s.dig = false) (hl : s.ds.length < 256) : exec (48 + d) s = .go { s with ds := d :: s.ds, dig := true } := by
  unfold exec
  rw [if_pos ⟨by omega, by omega⟩, h]
  simp only [Bool.false_eq_true, if_false]
  rw [if_neg (by omega), Nat.add_sub_cancel_left]
theorem exec_digit' {s : St} {d t : Nat} {r : List Nat} (hd : d < 10) (h : s.dig = true) (hs : s.ds = t :: r) : exec (48 + d) s = .go { s with ds := (t * 10 + d) % 4294967296 :: r } := by
  obtain ⟨mem, pc, ds, cs, dig, inp, out⟩ := s
  dsimp only at h hs
  subst h hs
  unfold exec
  rw [if_pos ⟨by omega, by omega⟩]
  simp only [if_true, Nat.add_sub_cancel_left]
/-- The digits of n push n. -/
theorem lin_digs {lo : Nat} : ∀ (n : Nat) (s : St), n < 4294967296 → s.dig = false → s.ds.length < 256 → lin lo (digs n) s = some { s with ds := n :: s.ds, dig := true } := by
  intro n
  induction n using Nat.strongRecOn with
  | _ n ih =>
    intro s hn hd hl
    rw [digs]
    split
    · rename_i h10
      unfold lin
      rw [if_neg (by omega), if_neg (by omega), exec_digit h10 hd hl]
      rfl
    · rename_i h10
      rw [lin_app, ih (n / 10) (by omega) s (by omega) hd hl]
      show lin lo [48 + n % 10] _ = _
      unfold lin
      rw [if_neg (by omega), if_neg (by omega), exec_digit' (t := n / 10) (r := s.ds) (Nat.mod_lt _ (by decide)) rfl rfl]
      show some _ = _
      have e : (n / 10 * 10 + n % 10) % 4294967296 = n := by omega
      simp only [e]
end Go.Proofs.YthmgocjmfhpafaaDoor.M17
