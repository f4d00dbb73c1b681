/- The reading machine as a plain function: a state, a step, a run. No program is named here. -/
import Derived.Test.YthmgocjmfhpafaaDoorMem
namespace Go.Proofs.YthmgocjmfhpafaaDoor.M17
set_option linter.unusedVariables false
set_option linter.unusedSimpArgs false

/-- A machine between two steps. The tops of the stacks are the heads of the lists. -/
structure St where
  mem : Nat → Nat
  pc : Nat
  ds : List Nat
  cs : List Nat
  dig : Bool
  inp : List Nat
  out : List UInt8
inductive Res where
  | go (s : St)
  | halt
  | trap
/-- What the instructions with two operands compute; b was on top. -/
def op2 (c a b : Nat) : Option Nat :=
  if c = 43 then some ((a + b) % 4294967296)
  else if c = 45 then some ((a + 4294967296 - b) % 4294967296)
  else if c = 42 then some (a * b % 4294967296)
  else if c = 47 then if b = 0 then none else some (a / b)
  else if c = 37 then if b = 0 then none else some (a % b)
  else if c = 94 then some (a ^^^ b)
  else if c = 60 then some (if a < b then 1 else 0)
  else none
def upd (m : Nat → Nat) (a v : Nat) : Nat → Nat := fun i => if i = a then v else m i
/-- The instruction c, pc having been counted up. -/
def exec (c : Nat) (s : St) : Res :=
  if 48 ≤ c ∧ c ≤ 57 then
    if s.dig then
      match s.ds with
      | [] => .trap
      | t :: r => .go { s with ds := (t * 10 + (c - 48)) % 4294967296 :: r }
    else if 256 ≤ s.ds.length then .trap
    else .go { s with ds := (c - 48) :: s.ds, dig := true }
  else if c = 32 ∨ c = 10 then .go { s with dig := false }
  else if c = 36 then .halt
  else if c = 64 then
    match s.ds with
    | [] => .trap
    | a :: r => if 262144 ≤ a then .trap else .go { s with ds := s.mem a :: r, dig := false }
  else if c = 58 then
    match s.ds with
    | [] => .trap
    | a :: r => if 64 ≤ s.cs.length then .trap else .go { s with ds := r, cs := s.pc :: s.cs, pc := a, dig := false }
  else if c = 59 then
    match s.cs with
    | [] => .trap
    | a :: r => .go { s with cs := r, pc := a, dig := false }
  else if c = 44 then
    if 256 ≤ s.ds.length then .trap else .go { s with ds := s.inp.headD 4294967295 :: s.ds, inp := s.inp.tail, dig := false }
  else if c = 46 then
    match s.ds with
    | [] => .trap
    | a :: r => .go { s with ds := r, out := s.out ++ [UInt8.ofNat a], dig := false }
  else
    match s.ds with
    | b :: a :: r =>
      if c = 33 then if 262144 ≤ b then .trap else .go { s with ds := r, mem := upd s.mem b a, dig := false }
      else if c = 63 then .go { s with ds := r, pc := if a = 0 then b else s.pc, dig := false }
      else match op2 c a b with
        | none => .trap
        | some v => .go { s with ds := v :: r, dig := false }
    | _ => .trap
/-- One step. -/
def step (s : St) : Res := if 262144 ≤ s.pc then .trap else exec (s.mem s.pc) { s with pc := s.pc + 1 }

/-- What holds of a machine between two steps. -/
structure Ok (s : St) : Prop where
  mem : ∀ i, s.mem i < 4294967296
  pc : s.pc < 4294967296
  ds : ∀ x ∈ s.ds, x < 4294967296
  cs : ∀ x ∈ s.cs, x < 4294967296
  inp : ∀ x ∈ s.inp, x < 4294967296
  dl : s.ds.length ≤ 256
  cl : s.cs.length ≤ 64
/-- A digit leaves a value. -/
def Dg (s : St) : Prop := s.dig = true → s.ds ≠ []
theorem op2_lt {c a b v : Nat} (ha : a < 4294967296) (hb : b < 4294967296) (h : op2 c a b = some v) : v < 4294967296 := by
  unfold op2 at h
  split at h
  · injection h with h; omega
  split at h
  · injection h with h; omega
  split at h
  · injection h with h; omega
  split at h
  · split at h
    · cases h
    · injection h with h; exact h ▸ Nat.lt_of_le_of_lt (Nat.div_le_self _ _) ha
  split at h
  · split at h
    · cases h
    · injection h with h; exact h ▸ Nat.lt_of_le_of_lt (Nat.mod_le _ _) ha
  split at h
  · injection h with h; exact h ▸ Nat.xor_lt_two_pow (n := 32) ha hb
  split at h
  · injection h with h; split at h <;> omega
  · cases h
set_option maxHeartbeats 4000000 in
theorem Ok.exec {s s' : St} {c : Nat} (h : Ok s) (he : exec c s = .go s') : Ok s' := by
  obtain ⟨h1, h2, h3, h4, h5, h6, h7⟩ := h
  obtain ⟨mem, pc, ds, cs, dig, inp, out⟩ := s
  dsimp only at h1 h2 h3 h4 h5 h6 h7
  unfold M17.exec at he
  dsimp only at he
  split at he
  · split at he
    · split at he
      · cases he
      · rename_i t r
        injection he with he; subst he
        refine ⟨h1, h2, ?_, h4, h5, h6, h7⟩
        intro x hx
        rcases List.mem_cons.1 hx with rfl | hx
        · exact Nat.mod_lt _ (by decide)
        · exact h3 x (List.mem_cons_of_mem _ hx)
    · split at he
      · cases he
      · injection he with he; subst he
        refine ⟨h1, h2, ?_, h4, h5, (by simp; omega), h7⟩
        intro x hx
        rcases List.mem_cons.1 hx with rfl | hx
        · omega
        · exact h3 x hx
  split at he
  · injection he with he; subst he
    exact ⟨h1, h2, h3, h4, h5, h6, h7⟩
  split at he
  · cases he
  split at he
  · split at he
    · cases he
    · rename_i a r
      split at he
      · cases he
      · injection he with he; subst he
        refine ⟨h1, h2, ?_, h4, h5, h6, h7⟩
        intro x hx
        rcases List.mem_cons.1 hx with rfl | hx
        · exact h1 _
        · exact h3 x (List.mem_cons_of_mem _ hx)
  split at he
  · split at he
    · cases he
    · rename_i a r
      split at he
      · cases he
      · injection he with he; subst he
        refine ⟨h1, h3 _ (by simp), fun x hx => h3 x (List.mem_cons_of_mem _ hx), ?_, h5, ?_, (by simp; omega)⟩
        · intro x hx
          rcases List.mem_cons.1 hx with rfl | hx
          · exact h2
          · exact h4 x hx
        · simp only [List.length_cons] at h6 ⊢; omega
  split at he
  · split at he
    · cases he
    · rename_i a r
      injection he with he; subst he
      refine ⟨h1, h4 _ (by simp), h3, fun x hx => h4 x (List.mem_cons_of_mem _ hx), h5, h6, ?_⟩
      simp only [List.length_cons] at h7 ⊢; omega
  split at he
  · split at he
    · cases he
    · injection he with he; subst he
      refine ⟨h1, h2, ?_, h4, fun x hx => h5 x (List.mem_of_mem_tail hx), (by simp; omega), h7⟩
      intro x hx
      rcases List.mem_cons.1 hx with rfl | hx
      · cases inp with
        | nil => simp
        | cons y l => exact h5 _ (by simp)
      · exact h3 x hx
  split at he
  · split at he
    · cases he
    · rename_i a r
      injection he with he; subst he
      refine ⟨h1, h2, fun x hx => h3 x (List.mem_cons_of_mem _ hx), h4, h5, ?_, h7⟩
      simp only [List.length_cons] at h6 ⊢; omega
  split at he
  · rename_i b a r
    have hb := h3 b (by simp)
    have ha := h3 a (by simp)
    have hr : ∀ x ∈ r, x < 4294967296 := fun x hx => h3 x (by simp [hx])
    have hl : r.length ≤ 254 := by simp only [List.length_cons] at h6; omega
    split at he
    · split at he
      · cases he
      · injection he with he; subst he
        refine ⟨?_, h2, hr, h4, h5, Nat.le_trans hl (by decide), h7⟩
        intro i
        show upd mem b a i < _
        unfold upd
        split
        · exact ha
        · exact h1 i
    split at he
    · injection he with he; subst he
      refine ⟨h1, ?_, hr, h4, h5, Nat.le_trans hl (by decide), h7⟩
      show (if a = 0 then b else pc) < _
      split
      · exact hb
      · exact h2
    split at he
    · cases he
    · rename_i v hv
      injection he with he; subst he
      refine ⟨h1, h2, ?_, h4, h5, (by simp only [List.length_cons]; omega), h7⟩
      intro x hx
      rcases List.mem_cons.1 hx with rfl | hx
      · exact op2_lt ha hb hv
      · exact hr x hx
  · cases he
set_option maxHeartbeats 4000000 in
theorem Dg.exec {s s' : St} {c : Nat} (he : exec c s = .go s') : Dg s' := by
  obtain ⟨mem, pc, ds, cs, dig, inp, out⟩ := s
  unfold M17.exec at he
  dsimp only at he
  unfold Dg
  split at he
  · split at he
    · split at he
      · cases he
      · injection he with he; subst he; exact fun _ => by simp
    · split at he
      · cases he
      · injection he with he; subst he; exact fun _ => by simp
  split at he
  · injection he with he; subst he; exact fun e => by cases e
  split at he
  · cases he
  split at he
  · split at he
    · cases he
    · split at he
      · cases he
      · injection he with he; subst he; exact fun e => by cases e
  split at he
  · split at he
    · cases he
    · split at he
      · cases he
      · injection he with he; subst he; exact fun e => by cases e
  split at he
  · split at he
    · cases he
    · injection he with he; subst he; exact fun e => by cases e
  split at he
  · split at he
    · cases he
    · injection he with he; subst he; exact fun e => by cases e
  split at he
  · split at he
    · cases he
    · injection he with he; subst he; exact fun e => by cases e
  split at he
  · split at he
    · split at he
      · cases he
      · injection he with he; subst he; exact fun e => by cases e
    split at he
    · injection he with he; subst he; exact fun e => by cases e
    split at he
    · cases he
    · injection he with he; subst he; exact fun e => by cases e
  · cases he
theorem Dg.step {s s' : St} (he : step s = .go s') : Dg s' := by
  unfold M17.step at he
  split at he
  · cases he
  · exact Dg.exec he
theorem Ok.step {s s' : St} (h : Ok s) (he : step s = .go s') : Ok s' := by
  unfold M17.step at he
  split at he
  · cases he
  · rename_i hp
    refine Ok.exec (s := { s with pc := s.pc + 1 }) ?_ he
    exact ⟨h.mem, by dsimp only; omega, h.ds, h.cs, h.inp, h.dl, h.cl⟩

/-- What a run hands back: the output, the error's number, the steps. -/
structure Out where
  out : List UInt8
  err : Nat
  steps : Nat
  deriving DecidableEq
def Out.more (k : Nat) (o : Out) : Out := ⟨o.out, o.err, o.steps + k⟩
def run : Nat → St → Out
  | 0, s => ⟨s.out, 13, 0⟩
  | n + 1, s =>
    match step s with
    | .go s' => (run n s').more 1
    | .halt => ⟨s.out, 0, 1⟩
    | .trap => ⟨s.out, 12, 1⟩
/-- A program text: its address, its characters. -/
abbrev Txt := Int × ByteArray
def codeAt (c : ByteArray) (i : Nat) : Nat := (c.data.toList.getD i 0).toNat
def place (m : Nat → Nat) (t : Txt) : Nat → Nat := fun i => if t.1.toNat ≤ i ∧ i < t.1.toNat + t.2.size then codeAt t.2 (i - t.1.toNat) else m i
def placed (ts : List Txt) : Nat → Nat := ts.foldl place fun _ => 0
def fits (t : Txt) : Prop := 0 ≤ t.1 ∧ t.1 + t.2.size ≤ 262144
instance (t : Txt) : Decidable (fits t) := by unfold fits; infer_instance
def init (ts : List Txt) (start : Nat) (inp : List Nat) : St := ⟨placed ts, start, [], [], false, inp, []⟩
/-- What Run hands back. -/
def ans (ts : List Txt) (start : Int) (inp : List Nat) (steps : Int) : Out :=
  if start < 0 ∨ 262144 ≤ start then ⟨[], 2, 0⟩
  else if ¬ ∀ t ∈ ts, fits t then ⟨[], 2, 0⟩
  else if 100000000 < steps then ⟨[], 6, 0⟩
  else if steps ≤ 0 then ⟨[], 13, 0⟩
  else run steps.toNat (init ts start.toNat inp)
theorem codeAt_lt (c : ByteArray) (i : Nat) : codeAt c i < 256 := UInt8.toNat_lt _
theorem place_lt {m : Nat → Nat} (h : ∀ i, m i < 4294967296) (t : Txt) (i : Nat) : place m t i < 4294967296 := by
  unfold place
  split
  · exact Nat.lt_trans (codeAt_lt _ _) (by decide)
  · exact h i
theorem placed_lt (ts : List Txt) : ∀ i, placed ts i < 4294967296 := by
  suffices h : ∀ (l : List Txt) (m : Nat → Nat), (∀ i, m i < 4294967296) → ∀ i, l.foldl place m i < 4294967296 from h ts _ fun _ => by decide
  intro l
  induction l with
  | nil => exact fun m h => h
  | cons t l ih => exact fun m h => ih _ (place_lt h t)
theorem init_ok (ts : List Txt) {start : Nat} (hs : start < 262144) {inp : List Nat} (hi : ∀ x ∈ inp, x < 4294967296) : Ok (init ts start inp) :=
  ⟨placed_lt ts, Nat.lt_trans hs (by decide), (fun x h => by cases h), (fun x h => by cases h), hi, Nat.zero_le _, Nat.zero_le _⟩
set_option maxHeartbeats 4000000 in
/-- The output never grows by more than a byte a step. -/
theorem exec_out {c : Nat} {s s' : St} (he : exec c s = .go s') : s'.out = s.out ∨ ∃ b, s'.out = s.out ++ [b] := by
  obtain ⟨mem, pc, ds, cs, dig, inp, out⟩ := s
  unfold exec at he
  dsimp only at he ⊢
  split at he
  · split at he
    · split at he
      · cases he
      · injection he with he; subst he; exact .inl rfl
    · split at he
      · cases he
      · injection he with he; subst he; exact .inl rfl
  split at he
  · injection he with he; subst he; exact .inl rfl
  split at he
  · cases he
  split at he
  · split at he
    · cases he
    · split at he
      · cases he
      · injection he with he; subst he; exact .inl rfl
  split at he
  · split at he
    · cases he
    · split at he
      · cases he
      · injection he with he; subst he; exact .inl rfl
  split at he
  · split at he
    · cases he
    · injection he with he; subst he; exact .inl rfl
  split at he
  · split at he
    · cases he
    · injection he with he; subst he; exact .inl rfl
  split at he
  · split at he
    · cases he
    · injection he with he; subst he; exact .inr ⟨_, rfl⟩
  split at he
  · split at he
    · split at he
      · cases he
      · injection he with he; subst he; exact .inl rfl
    split at he
    · injection he with he; subst he; exact .inl rfl
    split at he
    · cases he
    · injection he with he; subst he; exact .inl rfl
  · cases he
theorem step_out {s s' : St} (h : step s = .go s') : s'.out = s.out ∨ ∃ b, s'.out = s.out ++ [b] := by
  unfold step at h
  split at h
  · cases h
  · exact exec_out (s := { s with pc := s.pc + 1 }) h
theorem more_more (o : Out) (j k : Nat) : (o.more j).more k = o.more (j + k) := by
  unfold Out.more
  simp [Nat.add_assoc]
theorem more_zero (o : Out) : o.more 0 = o := rfl
theorem run_go {n : Nat} {s s' : St} (h : step s = .go s') : run (n + 1) s = (run n s').more 1 := by
  rw [run, h]
theorem run_halt {n : Nat} {s : St} (h : step s = .halt) : run (n + 1) s = ⟨s.out, 0, 1⟩ := by
  rw [run, h]
theorem run_trap {n : Nat} {s : St} (h : step s = .trap) : run (n + 1) s = ⟨s.out, 12, 1⟩ := by
  rw [run, h]
end Go.Proofs.YthmgocjmfhpafaaDoor.M17
