/- The landed step of layer 17: digits, blanks, the stop, two operands, and a program counter out of bounds. -/
import Derived.Test.YthmgocjmfhpafaaDoorM17Own7
namespace Go.Proofs.YthmgocjmfhpafaaDoor.M17
set_option maxRecDepth 100000
open Go.RowKit Mem Go.Shelf
set_option linter.unusedVariables false
set_option linter.unusedSimpArgs false

/-- The tests on the word. -/
structure Ts (c : Nat) (b32 b10 b64 b58 b59 b44 b46 b36 : Bool) : Prop where
  t32 : ((c : Int) == 32) = b32
  t10 : ((c : Int) == 10) = b10
  t64 : ((c : Int) == 64) = b64
  t58 : ((c : Int) == 58) = b58
  t59 : ((c : Int) == 59) = b59
  t44 : ((c : Int) == 44) = b44
  t46 : ((c : Int) == 46) = b46
  t36 : ((c : Int) == 36) = b36
theorem ts_of (c : Nat) : Ts c (decide (c = 32)) (decide (c = 10)) (decide (c = 64)) (decide (c = 58)) (decide (c = 59)) (decide (c = 44)) (decide (c = 46)) (decide (c = 36)) := by
  have h : ∀ n : Nat, ((c : Int) == (n : Int)) = decide (c = n) := fun n => by
    by_cases e : c = n
    · subst e; simp
    · have : ¬ (c : Int) = (n : Int) := by omega
      rw [decide_eq_false e]
      simpa using this
  exact ⟨h 32, h 10, h 64, h 58, h 59, h 44, h 46, h 36⟩
section
variable {w0 w : World} {base B k M E P ic : Nat} {s : St} {D C O : Value} {IA : Option Addr} {vs : List Value}
/-- The state behind the fetch. -/
def nxt (s : St) : St := { s with pc := s.pc + 1 }
/-- What one step leaves behind. -/
def StQ (w0 : World) (base B k : Nat) (s : St) : Ending → World → Prop := Oc w0 base B k s.out (.returned (.bool false)) (step s)
theorem StQ.go {s' : St} {w' : World} (h : step s = .go s') (h' : On w0 base w' B s' k) : StQ w0 base B k s (.returned (.bool false)) w' := by
  unfold StQ; rw [h]; exact ⟨rfl, h'⟩
theorem StQ.halt {s' : St} {w' : World} (h : step s = .halt) (ho : s'.out = s.out) (h' : On w0 base w' B s' k) : StQ w0 base B k s (.returned (.bool true)) w' := by
  unfold StQ; rw [h]; exact ⟨rfl, s', ho, h'⟩
theorem StQ.trap {s' : St} {w' : World} (h : step s = .trap) (ho : s'.out = s.out) (h' : On w0 base w' B s' k) : StQ w0 base B k s (.panicked [tr]) w' := by
  unfold StQ; rw [h]; exact ⟨rfl, s', ho, h'⟩
theorem At.fetched (h : At w0 base w B s M E P D C O IA ic (rowV M E D C O IA ic s k)) (hp : s.pc < 262144) (n : Nat) : At w0 base ((w.drewN n).setCell ⟨B, 5, none⟩ (.int .u32 ((s.pc + 1 : Nat) : Int))) B (nxt s) M E P D C O IA ic (rowV M E D C O IA ic (nxt s) k) :=
  ((h.drewN n).field 5 _).st (s' := nxt s) rfl rfl rfl rfl rfl ⟨h.ok.mem, by show s.pc + 1 < _; omega, h.ok.ds, h.ok.cs, h.ok.inp, h.ok.dl, h.ok.cl⟩
theorem At.undig (h : At w0 base w B s M E P D C O IA ic (rowV M E D C O IA ic s k)) : At w0 base (w.setCell ⟨B, 6, none⟩ (.bool false)) B { s with dig := false } M E P D C O IA ic (rowV M E D C O IA ic { s with dig := false } k) :=
  (h.field 6 _).st (s' := { s with dig := false }) rfl rfl rfl rfl rfl ⟨h.ok.mem, h.ok.pc, h.ok.ds, h.ok.cs, h.ok.inp, h.ok.dl, h.ok.cl⟩
set_option maxHeartbeats 4000000 in
theorem step_out_of (h : At w0 base w B s M E P D C O IA ic (rowV M E D C O IA ic s k)) (hp : ¬ s.pc < 262144) : Calls Tryd.prog 84 #[.pointer (some ⟨B, 0, none⟩)] w (StQ w0 base B k s) := by
  obtain ⟨c0, _⟩ := h.f (i := 0) (v := memV M) rfl
  unfold memV at c0
  obtain ⟨c5, _⟩ := h.f (i := 5) (v := .int .u32 (s.pc : Int)) rfl
  have fin : StQ w0 base B k s (.panicked [tr]) w.drew := StQ.trap (by unfold step; rw [if_pos (by omega)]) rfl h.drew.on
  obtain ⟨Q, hQ⟩ : ∃ Q, StQ w0 base B k s = Q := ⟨_, rfl⟩
  rw [hQ] at fin ⊢
  have c := Lib.hid (fun W => address_bad s.pc hp W)
  obtain ⟨q, hq⟩ : ∃ q, s.pc = q := ⟨_, rfl⟩
  rw [hq] at c c5
  replace fin := Lib.hid fin
  clear hQ hq hp h
  go_enter Tryd.func84, Tryd.ntmps84
  go_wp2_with fail
  refine wp_region_held_drew (S := fun W => W = w.drew) (by kernel_rfl) rfl (fun hHeld => ?_)
  refine wpAnyH_take (i := 0) (v := .pointer (some ⟨B, 0, none⟩)) rfl (by kernel_rfl) (by kernel_rfl) (by kernel_rfl) (fun _ _ _ h => h) (Or.inl ⟨by rfl, ?h0⟩) (by assumption) ?r0
  case h0 =>
    intro W hW
    subst hW
    go_simp
  simp only [Act.put, List.setIfInBounds_toArray, List.set_cons_zero, List.set_cons_succ]
  refine wpAnyH_take (i := 1) (v := .pointer (some ⟨B, 0, none⟩)) rfl (by kernel_rfl) (by kernel_rfl) (by kernel_rfl) (fun _ _ _ h => h) (Or.inl ⟨by rfl, ?h1⟩) (by assumption) ?r1
  case h1 =>
    intro W hW
    subst hW
    go_simp
  simp only [Act.put, List.setIfInBounds_toArray, List.set_cons_zero, List.set_cons_succ]
  refine wpAnyH_take (i := 2) (v := .pointer (some ⟨B, 0, none⟩)) rfl (by kernel_rfl) (by kernel_rfl) (by kernel_rfl) (fun _ _ _ h => h) (Or.inl ⟨by rfl, ?h2⟩) (by assumption) ?r2
  case h2 =>
    intro W hW
    subst hW
    go_simp
  simp only [Act.put, List.setIfInBounds_toArray, List.set_cons_zero, List.set_cons_succ]
  refine wpAnyH_take (i := 3) (v := .slice (some ⟨M, 0, none⟩) 262144 262144) rfl (by kernel_rfl) (by kernel_rfl) (by kernel_rfl) (fun _ _ _ h => h) (Or.inl ⟨by rfl, ?h3⟩) (by assumption) ?r3
  case h3 =>
    intro W hW
    subst hW
    go_simp
  simp only [Act.put, List.setIfInBounds_toArray, List.set_cons_zero, List.set_cons_succ]
  refine wpAnyH_take (i := 4) (v := .pointer (some ⟨B, 0, none⟩)) rfl (by kernel_rfl) (by kernel_rfl) (by kernel_rfl) (fun _ _ _ h => h) (Or.inl ⟨by rfl, ?h4⟩) (by assumption) ?r4
  case h4 =>
    intro W hW
    subst hW
    go_simp
  simp only [Act.put, List.setIfInBounds_toArray, List.set_cons_zero, List.set_cons_succ]
  refine wpAnyH_take (i := 5) (v := .pointer (some ⟨B, 0, none⟩)) rfl (by kernel_rfl) (by kernel_rfl) (by kernel_rfl) (fun _ _ _ h => h) (Or.inl ⟨by rfl, ?h5⟩) (by assumption) ?r5
  case h5 =>
    intro W hW
    subst hW
    go_simp
  simp only [Act.put, List.setIfInBounds_toArray, List.set_cons_zero, List.set_cons_succ]
  refine wpAnyH_take (i := 6) (v := .pointer (some ⟨B, 5, none⟩)) rfl (by kernel_rfl) (by kernel_rfl) (by kernel_rfl) (fun _ _ _ h => h) (Or.inl ⟨by rfl, ?h6⟩) (by assumption) ?r6
  case h6 =>
    intro W hW
    subst hW
    go_simp
  simp only [Act.put, List.setIfInBounds_toArray, List.set_cons_zero, List.set_cons_succ]
  refine wpAnyH_take (i := 7) (v := .int .u32 (q : Int)) rfl (by kernel_rfl) (by kernel_rfl) (by kernel_rfl) (fun _ _ _ h => h) (Or.inl ⟨by rfl, ?h7⟩) (by assumption) ?r7
  case h7 =>
    intro W hW
    subst hW
    go_simp
  simp only [Act.put, List.setIfInBounds_toArray, List.set_cons_zero, List.set_cons_succ]
  refine wpAnyH_ready (rs := [8]) (by kernel_rfl) (by simp) ?_
  refine AllReadyH.cons rfl (fun K hK => ?_) AllReadyH.nil
  go_simp
  refine (c.out _).mono ?_
  rintro e w1 ⟨rfl, rfl⟩
  exact ⟨rfl, fin.out⟩
theorem step_is {c : Nat} (hp : s.pc < 262144) (hc : s.mem s.pc = c) : step s = exec c (nxt s) := by
  unfold step nxt
  rw [if_neg (by omega), hc]
/-- A part that does the whole of the step's work: what it leaves is what the step leaves. -/
theorem oc_end {c : Nat} (hst : step s = exec c (nxt s)) (hne : exec c (nxt s) ≠ .halt) {e : Ending} {w' : World} (h : Oc w0 base B k s.out (.returned (.tuple #[])) (exec c (nxt s)) e w') :
    (e = .returned (.tuple #[]) ∧ StQ w0 base B k s (.returned (.bool false)) w') ∨ (e = .panicked [tr] ∧ StQ w0 base B k s (.panicked [tr]) w') := by
  unfold StQ
  rw [hst]
  cases hx : exec c (nxt s) with
  | go s' => rw [hx] at h; exact .inl ⟨h.1, rfl, h.2⟩
  | halt => exact absurd hx hne
  | trap => rw [hx] at h; exact .inr ⟨h.1, rfl, h.2⟩
theorem digit_goes {c : Nat} (s : St) (h : 48 ≤ c ∧ c ≤ 57) : exec c s ≠ .halt := by
  unfold exec
  rw [if_pos h]
  split
  · split <;> intro e <;> cases e
  · split <;> intro e <;> cases e
set_option maxHeartbeats 4000000 in
theorem step_digit (h : At w0 base w B s M E P D C O IA ic (rowV M E D C O IA ic s k)) (hp : s.pc < 262144) {c : Nat} (hc : s.mem s.pc = c) (hd : 48 ≤ c ∧ c ≤ 57) : Calls Tryd.prog 84 #[.pointer (some ⟨B, 0, none⟩)] w (StQ w0 base B k s) := by
  have hst := step_is hp hc
  have hoc := fun (e : Ending) (w' : World) => oc_end (w0 := w0) (base := base) (B := B) (k := k) (e := e) (w' := w') hst (digit_goes _ hd)
  obtain ⟨c0, _⟩ := h.f (i := 0) (v := memV M) rfl
  unfold memV at c0
  obtain ⟨c5, f5⟩ := h.f (i := 5) (v := .int .u32 (s.pc : Int)) rfl
  have cm := h.mem.cell s.pc hp
  rw [hc] at cm
  have cA := Lib.hid (fun W => address_own s.pc hp W)
  have hat := Lib.hid (h.fetched hp)
  have cI := Lib.hid (isDigit_own c)
  obtain ⟨Q, hQ⟩ : ∃ Q, StQ w0 base B k s = Q := ⟨_, rfl⟩
  obtain ⟨q, hq⟩ : ∃ q, s.pc = q := ⟨_, rfl⟩
  rw [hq] at cA c5 cm hp hat
  obtain ⟨q1, hq1⟩ : ∃ q1, q + 1 = q1 := ⟨_, rfl⟩
  rw [hq1] at hat
  have g0 : (0 : Int) ≤ (q : Int) := by omega
  have g1 : (q : Int) < 262144 := by omega
  have g2 : (q : Int) + 1 = (q1 : Int) := by omega
  have g3 : (q1 : Int) < 4294967296 := by omega
  obtain ⟨d, hd'⟩ : ∃ d, c - 48 = d := ⟨_, rfl⟩
  have d1 : ((c : Int) - 48) % 4294967296 = (d : Int) := by omega
  have d2 : (c : Int) - 48 = (d : Int) := by omega
  have d3 : (d : Int) < 4294967296 := by omega
  have hcd : 48 + d = c := by omega
  have cD : ∀ W1, At w0 base W1 B (nxt s) M E P D C O IA ic (rowV M E D C O IA ic (nxt s) k) → Calls Tryd.prog 120 #[.pointer (some ⟨B, 0, none⟩), .int .u32 (d : Int)] W1 (Oc w0 base B k s.out (.returned (.tuple #[])) (exec c (nxt s))) := fun W1 h1 => by
    have := addDigit_own h1 (d := d) (by omega)
    rw [hcd] at this
    exact this
  replace cD := Lib.hid cD
  replace hoc := Lib.hid hoc
  rw [decide_eq_true hd] at cI
  rw [hQ] at hoc ⊢
  clear hQ hq hq1 hst hd hd' hcd h
  go_enter Tryd.func84, Tryd.ntmps84
  go_wp2_with fail
  go_quiet ((go_at_call 118; exact Calls.quiet_of_same (cA.out _)))
  go_wp2_with fail
  refine (cI.out _).mono ?_
  rintro e w1 ⟨rfl, rfl⟩
  have h1 := hat.out nq
  obtain ⟨W1, hW1⟩ : ∃ W, (w.drewN nq).setCell ⟨B, 5, none⟩ (.int .u32 (q1 : Int)) = W := ⟨_, rfl⟩
  rw [hW1] at h1 ⊢
  clear hW1 hat cI cA c0 c5 f5 cm g0 g1 g2 g3 hp
  go_wp2_with fail
  refine (cD.out W1 h1).mono ?_
  intro e w2 ho
  rcases hoc.out e w2 ho with ⟨rfl, hq⟩ | ⟨rfl, hq⟩
  · replace hq := Lib.hid hq
    clear ho h1 cD hoc
    go_wp2
    first | go_ret | skip
    exact hq.out
  · exact ⟨rfl, hq⟩
theorem blank_goes {c : Nat} (s : St) (h : c = 32 ∨ c = 10) : exec c s = .go { s with dig := false } := by
  rcases h with rfl | rfl <;> rfl
set_option maxHeartbeats 4000000 in
theorem step_space (h : At w0 base w B s M E P D C O IA ic (rowV M E D C O IA ic s k)) (hp : s.pc < 262144) {c : Nat} (hc : s.mem s.pc = c) (hcc : c = 32) : Calls Tryd.prog 84 #[.pointer (some ⟨B, 0, none⟩)] w (StQ w0 base B k s) := by
  have hst := step_is hp hc
  obtain ⟨c0, _⟩ := h.f (i := 0) (v := memV M) rfl
  unfold memV at c0
  obtain ⟨c5, f5⟩ := h.f (i := 5) (v := .int .u32 (s.pc : Int)) rfl
  have cm := h.mem.cell s.pc hp
  rw [hc] at cm
  have cA := Lib.hid (fun W => address_own s.pc hp W)
  have hat := Lib.hid (h.fetched hp)
  have cI := Lib.hid (isDigit_own c)
  obtain ⟨Q, hQ⟩ : ∃ Q, StQ w0 base B k s = Q := ⟨_, rfl⟩
  obtain ⟨q, hq⟩ : ∃ q, s.pc = q := ⟨_, rfl⟩
  rw [hq] at cA c5 cm hp hat
  obtain ⟨q1, hq1⟩ : ∃ q1, q + 1 = q1 := ⟨_, rfl⟩
  rw [hq1] at hat
  have g0 : (0 : Int) ≤ (q : Int) := by omega
  have g1 : (q : Int) < 262144 := by omega
  have g2 : (q : Int) + 1 = (q1 : Int) := by omega
  have g3 : (q1 : Int) < 4294967296 := by omega
  obtain ⟨t32, t10, t64, t58, t59, t44, t46, t36⟩ : Ts c true false false false false false false false := by subst hcc; exact ts_of 32
  have hnd : ¬ (48 ≤ c ∧ c ≤ 57) := by omega
  have hfin : ∀ W2, On w0 base W2 B { nxt s with dig := false } k → StQ w0 base B k s (.returned (.bool false)) W2 := fun W2 h2 => StQ.go (by rw [hst]; exact blank_goes _ (.inl hcc)) h2
  rw [decide_eq_false hnd] at cI
  rw [hQ] at hfin ⊢
  replace hfin := Lib.hid hfin
  clear hQ hq hq1 hst hnd h hcc
  go_enter Tryd.func84, Tryd.ntmps84
  go_wp2_with fail
  go_quiet ((go_at_call 118; exact Calls.quiet_of_same (cA.out _)))
  go_wp2_with fail
  refine (cI.out _).mono ?_
  rintro e w1 ⟨rfl, rfl⟩
  have h1 := hat.out nq
  obtain ⟨W1, hW1⟩ : ∃ W, (w.drewN nq).setCell ⟨B, 5, none⟩ (.int .u32 (q1 : Int)) = W := ⟨_, rfl⟩
  rw [hW1] at h1 ⊢
  clear hW1 hat cI cA c0 c5 f5 cm g0 g1 g2 g3 hp
  have f6 : W1.frozen? ⟨B, 6, none⟩ = false := (h1.f (i := 6) (v := .bool s.dig) rfl).2
  have c6 : W1.cell? ⟨B, 6, none⟩ = some (.bool s.dig) := (h1.f (i := 6) (v := .bool s.dig) rfl).1
  have h2 := h1.undig
  have z := Lib.hid (hfin.out _ h2.on)
  clear h1 h2 hfin
  go_wp2
  first | go_ret | skip
  exact z.out
set_option maxHeartbeats 4000000 in
theorem step_feed (h : At w0 base w B s M E P D C O IA ic (rowV M E D C O IA ic s k)) (hp : s.pc < 262144) {c : Nat} (hc : s.mem s.pc = c) (hcc : c = 10) : Calls Tryd.prog 84 #[.pointer (some ⟨B, 0, none⟩)] w (StQ w0 base B k s) := by
  have hst := step_is hp hc
  obtain ⟨c0, _⟩ := h.f (i := 0) (v := memV M) rfl
  unfold memV at c0
  obtain ⟨c5, f5⟩ := h.f (i := 5) (v := .int .u32 (s.pc : Int)) rfl
  have cm := h.mem.cell s.pc hp
  rw [hc] at cm
  have cA := Lib.hid (fun W => address_own s.pc hp W)
  have hat := Lib.hid (h.fetched hp)
  have cI := Lib.hid (isDigit_own c)
  obtain ⟨Q, hQ⟩ : ∃ Q, StQ w0 base B k s = Q := ⟨_, rfl⟩
  obtain ⟨q, hq⟩ : ∃ q, s.pc = q := ⟨_, rfl⟩
  rw [hq] at cA c5 cm hp hat
  obtain ⟨q1, hq1⟩ : ∃ q1, q + 1 = q1 := ⟨_, rfl⟩
  rw [hq1] at hat
  have g0 : (0 : Int) ≤ (q : Int) := by omega
  have g1 : (q : Int) < 262144 := by omega
  have g2 : (q : Int) + 1 = (q1 : Int) := by omega
  have g3 : (q1 : Int) < 4294967296 := by omega
  obtain ⟨t32, t10, t64, t58, t59, t44, t46, t36⟩ : Ts c false true false false false false false false := by subst hcc; exact ts_of 10
  have hnd : ¬ (48 ≤ c ∧ c ≤ 57) := by omega
  have hfin : ∀ W2, On w0 base W2 B { nxt s with dig := false } k → StQ w0 base B k s (.returned (.bool false)) W2 := fun W2 h2 => StQ.go (by rw [hst]; exact blank_goes _ (.inr hcc)) h2
  rw [decide_eq_false hnd] at cI
  rw [hQ] at hfin ⊢
  replace hfin := Lib.hid hfin
  clear hQ hq hq1 hst hnd h hcc
  go_enter Tryd.func84, Tryd.ntmps84
  go_wp2_with fail
  go_quiet ((go_at_call 118; exact Calls.quiet_of_same (cA.out _)))
  go_wp2_with fail
  refine (cI.out _).mono ?_
  rintro e w1 ⟨rfl, rfl⟩
  have h1 := hat.out nq
  obtain ⟨W1, hW1⟩ : ∃ W, (w.drewN nq).setCell ⟨B, 5, none⟩ (.int .u32 (q1 : Int)) = W := ⟨_, rfl⟩
  rw [hW1] at h1 ⊢
  clear hW1 hat cI cA c0 c5 f5 cm g0 g1 g2 g3 hp
  have f6 : W1.frozen? ⟨B, 6, none⟩ = false := (h1.f (i := 6) (v := .bool s.dig) rfl).2
  have c6 : W1.cell? ⟨B, 6, none⟩ = some (.bool s.dig) := (h1.f (i := 6) (v := .bool s.dig) rfl).1
  have h2 := h1.undig
  have z := Lib.hid (hfin.out _ h2.on)
  clear h1 h2 hfin
  go_wp2
  first | go_ret | skip
  exact z.out
set_option maxHeartbeats 4000000 in
theorem step_stop (h : At w0 base w B s M E P D C O IA ic (rowV M E D C O IA ic s k)) (hp : s.pc < 262144) {c : Nat} (hc : s.mem s.pc = c) (hcc : c = 36) : Calls Tryd.prog 84 #[.pointer (some ⟨B, 0, none⟩)] w (StQ w0 base B k s) := by
  have hst := step_is hp hc
  obtain ⟨c0, _⟩ := h.f (i := 0) (v := memV M) rfl
  unfold memV at c0
  obtain ⟨c5, f5⟩ := h.f (i := 5) (v := .int .u32 (s.pc : Int)) rfl
  have cm := h.mem.cell s.pc hp
  rw [hc] at cm
  have cA := Lib.hid (fun W => address_own s.pc hp W)
  have hat := Lib.hid (h.fetched hp)
  have cI := Lib.hid (isDigit_own c)
  obtain ⟨Q, hQ⟩ : ∃ Q, StQ w0 base B k s = Q := ⟨_, rfl⟩
  obtain ⟨q, hq⟩ : ∃ q, s.pc = q := ⟨_, rfl⟩
  rw [hq] at cA c5 cm hp hat
  obtain ⟨q1, hq1⟩ : ∃ q1, q + 1 = q1 := ⟨_, rfl⟩
  rw [hq1] at hat
  have g0 : (0 : Int) ≤ (q : Int) := by omega
  have g1 : (q : Int) < 262144 := by omega
  have g2 : (q : Int) + 1 = (q1 : Int) := by omega
  have g3 : (q1 : Int) < 4294967296 := by omega
  obtain ⟨t32, t10, t64, t58, t59, t44, t46, t36⟩ : Ts c false false false false false false false true := by subst hcc; exact ts_of 36
  have hnd : ¬ (48 ≤ c ∧ c ≤ 57) := by omega
  have hfin : ∀ W2, On w0 base W2 B { nxt s with dig := false } k → StQ w0 base B k s (.returned (.bool true)) W2 := fun W2 h2 => StQ.halt (s' := { nxt s with dig := false }) (by rw [hst, hcc]; rfl) rfl h2
  rw [decide_eq_false hnd] at cI
  rw [hQ] at hfin ⊢
  replace hfin := Lib.hid hfin
  clear hQ hq hq1 hst hnd h hcc
  go_enter Tryd.func84, Tryd.ntmps84
  go_wp2_with fail
  go_quiet ((go_at_call 118; exact Calls.quiet_of_same (cA.out _)))
  go_wp2_with fail
  refine (cI.out _).mono ?_
  rintro e w1 ⟨rfl, rfl⟩
  have h1 := hat.out nq
  obtain ⟨W1, hW1⟩ : ∃ W, (w.drewN nq).setCell ⟨B, 5, none⟩ (.int .u32 (q1 : Int)) = W := ⟨_, rfl⟩
  rw [hW1] at h1 ⊢
  clear hW1 hat cI cA c0 c5 f5 cm g0 g1 g2 g3 hp
  have f6 : W1.frozen? ⟨B, 6, none⟩ = false := (h1.f (i := 6) (v := .bool s.dig) rfl).2
  have c6 : W1.cell? ⟨B, 6, none⟩ = some (.bool s.dig) := (h1.f (i := 6) (v := .bool s.dig) rfl).1
  have h2 := h1.undig
  have z := Lib.hid (hfin.out _ h2.on)
  clear h1 h2 hfin
  go_wp2
  first | go_ret | skip
  exact z.out
theorem two_goes {c : Nat} (h : Two c) (s : St) : exec c s ≠ .halt := by
  rw [h.exec]
  split
  · split
    · split <;> intro e <;> cases e
    split
    · intro e; cases e
    split <;> intro e <;> cases e
  · intro e; cases e
theorem two_dig {c : Nat} (h : Two c) (s : St) (b : Bool) : exec c { s with dig := b } = exec c s := by
  rw [h.exec, h.exec]
set_option maxHeartbeats 4000000 in
theorem step_two (h : At w0 base w B s M E P D C O IA ic (rowV M E D C O IA ic s k)) (hp : s.pc < 262144) {c : Nat} (hc : s.mem s.pc = c) (h2c : Two c) : Calls Tryd.prog 84 #[.pointer (some ⟨B, 0, none⟩)] w (StQ w0 base B k s) := by
  have hst := step_is hp hc
  obtain ⟨c0, _⟩ := h.f (i := 0) (v := memV M) rfl
  unfold memV at c0
  obtain ⟨c5, f5⟩ := h.f (i := 5) (v := .int .u32 (s.pc : Int)) rfl
  have cm := h.mem.cell s.pc hp
  rw [hc] at cm
  have cA := Lib.hid (fun W => address_own s.pc hp W)
  have hat := Lib.hid (h.fetched hp)
  have cI := Lib.hid (isDigit_own c)
  obtain ⟨Q, hQ⟩ : ∃ Q, StQ w0 base B k s = Q := ⟨_, rfl⟩
  obtain ⟨q, hq⟩ : ∃ q, s.pc = q := ⟨_, rfl⟩
  rw [hq] at cA c5 cm hp hat
  obtain ⟨q1, hq1⟩ : ∃ q1, q + 1 = q1 := ⟨_, rfl⟩
  rw [hq1] at hat
  have g0 : (0 : Int) ≤ (q : Int) := by omega
  have g1 : (q : Int) < 262144 := by omega
  have g2 : (q : Int) + 1 = (q1 : Int) := by omega
  have g3 : (q1 : Int) < 4294967296 := by omega
  obtain ⟨t32, t10, t64, t58, t59, t44, t46, t36⟩ : Ts c false false false false false false false false := by
    have T := ts_of c
    rw [decide_eq_false (fun e => h2c.h1 (.inl e)), decide_eq_false (fun e => h2c.h1 (.inr e)), decide_eq_false h2c.h3, decide_eq_false h2c.h4, decide_eq_false h2c.h5, decide_eq_false h2c.h6, decide_eq_false h2c.h7, decide_eq_false h2c.h2] at T
    exact T
  have hnd : ¬ (48 ≤ c ∧ c ≤ 57) := by exact h2c.h0
  have hfin : ∀ (e : Ending) (w' : World), Oc w0 base B k s.out (.returned (.tuple #[])) (exec c { nxt s with dig := false }) e w' → (e = .returned (.tuple #[]) ∧ StQ w0 base B k s (.returned (.bool false)) w') ∨ (e = .panicked [tr] ∧ StQ w0 base B k s (.panicked [tr]) w') := fun e w' ho => by
    rw [two_dig h2c] at ho
    exact oc_end hst (two_goes h2c _) ho
  have cT : ∀ W2, At w0 base W2 B { nxt s with dig := false } M E P D C O IA ic (rowV M E D C O IA ic { nxt s with dig := false } k) → Calls Tryd.prog 124 #[.pointer (some ⟨B, 0, none⟩), .int .u32 (c : Int)] W2 (Oc w0 base B k s.out (.returned (.tuple #[])) (exec c { nxt s with dig := false })) := fun W2 h2 => apply_own h2 rfl h2c
  replace cT := Lib.hid cT
  rw [decide_eq_false hnd] at cI
  rw [hQ] at hfin ⊢
  replace hfin := Lib.hid hfin
  clear hQ hq hq1 hst hnd h
  go_enter Tryd.func84, Tryd.ntmps84
  go_wp2_with fail
  go_quiet ((go_at_call 118; exact Calls.quiet_of_same (cA.out _)))
  go_wp2_with fail
  refine (cI.out _).mono ?_
  rintro e w1 ⟨rfl, rfl⟩
  have h1 := hat.out nq
  obtain ⟨W1, hW1⟩ : ∃ W, (w.drewN nq).setCell ⟨B, 5, none⟩ (.int .u32 (q1 : Int)) = W := ⟨_, rfl⟩
  rw [hW1] at h1 ⊢
  clear hW1 hat cI cA c0 c5 f5 cm g0 g1 g2 g3 hp
  have f6 : W1.frozen? ⟨B, 6, none⟩ = false := (h1.f (i := 6) (v := .bool s.dig) rfl).2
  have c6 : W1.cell? ⟨B, 6, none⟩ = some (.bool s.dig) := (h1.f (i := 6) (v := .bool s.dig) rfl).1
  have h2 := h1.undig
  have c2 := Lib.hid (cT.out _ h2)
  clear h1 h2 cT
  go_wp2_with fail
  refine (c2.out).mono ?_
  intro e w2 ho
  rcases hfin.out e w2 ho with ⟨rfl, hq⟩ | ⟨rfl, hq⟩
  · replace hq := Lib.hid hq
    clear ho c2 hfin
    go_wp2
    first | go_ret | skip
    exact hq.out
  · exact ⟨rfl, hq⟩
end
end Go.Proofs.YthmgocjmfhpafaaDoor.M17
