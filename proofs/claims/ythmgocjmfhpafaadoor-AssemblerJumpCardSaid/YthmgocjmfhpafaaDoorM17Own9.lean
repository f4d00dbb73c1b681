/- The landed step of layer 17: loads, calls, returns, input, output. -/
import Derived.Test.YthmgocjmfhpafaaDoorM17Own8
namespace Go.Proofs.YthmgocjmfhpafaaDoor.M17
set_option maxRecDepth 100000
open Go.RowKit Mem Go.Shelf
set_option linter.unusedVariables false
set_option linter.unusedSimpArgs false
section
variable {w0 w : World} {base B k M E P ic : Nat} {s : St} {D C O : Value} {IA : Option Addr} {vs : List Value}
set_option maxHeartbeats 4000000 in
theorem step_call_none (h : At w0 base w B s M E P D C O IA ic (rowV M E D C O IA ic s k)) (hp : s.pc < 262144) {c : Nat} (hc : s.mem s.pc = c) (hcc : c = 58) (hds : s.ds = []) : Calls Tryd.prog 84 #[.pointer (some ⟨B, 0, none⟩)] w (StQ w0 base B k s) := by
  have hst := step_is hp hc
  obtain ⟨c0, _⟩ := h.f (i := 0) (v := memV M) rfl
  unfold memV at c0
  obtain ⟨c5, f5⟩ := h.f (i := 5) (v := .int .u32 (s.pc : Int)) rfl
  have cm := h.mem.cell s.pc hp
  rw [hc] at cm
  have cA := Lib.hid (fun W => address_own s.pc hp W)
  have hat := Lib.hid (h.fetched hp)
  have cI := Lib.hid (isDigit_own c)
  obtain ⟨Q, hQ⟩ : ∃ Q, StQ w0 base B k s = Q := ⟨_, rfl⟩
  obtain ⟨q, hq⟩ : ∃ q, s.pc = q := ⟨_, rfl⟩
  rw [hq] at cA c5 cm hp hat
  obtain ⟨q1, hq1⟩ : ∃ q1, q + 1 = q1 := ⟨_, rfl⟩
  rw [hq1] at hat
  have g0 : (0 : Int) ≤ (q : Int) := by omega
  have g1 : (q : Int) < 262144 := by omega
  have g2 : (q : Int) + 1 = (q1 : Int) := by omega
  have g3 : (q1 : Int) < 4294967296 := by omega
  obtain ⟨t32, t10, t64, t58, t59, t44, t46, t36⟩ : Ts c false false false true false false false false := by subst hcc; exact ts_of 58
  have hnd : ¬ (48 ≤ c ∧ c ≤ 57) := by omega
  have cP : ∀ W2, At w0 base W2 B { nxt s with dig := false } M E P D C O IA ic (rowV M E D C O IA ic { nxt s with dig := false } k) → Calls Tryd.prog 121 #[.pointer (some ⟨B, 1, none⟩)] W2 fun e w' => e = .panicked [tr] ∧ w' = W2 := fun W2 h2 => popD_bad h2 rfl hds
  replace cP := Lib.hid cP
  have hfin : ∀ W2, On w0 base W2 B { nxt s with dig := false } k → StQ w0 base B k s (.panicked [tr]) W2 := fun W2 h2 => StQ.trap (s' := { nxt s with dig := false }) (by
    rw [hst, hcc]
    show exec _ (nxt s) = _
    obtain ⟨smem, spc, sds, scs, sdig, sinp, sout⟩ := s
    unfold exec nxt
    dsimp only at hds ⊢
    simp [hds]) rfl h2
  rw [decide_eq_false hnd] at cI
  rw [hQ] at hfin ⊢
  replace hfin := Lib.hid hfin
  clear hQ hq hq1 hst hnd h hcc hds
  go_enter Tryd.func84, Tryd.ntmps84
  go_wp2_with fail
  go_quiet ((go_at_call 118; exact Calls.quiet_of_same (cA.out _)))
  go_wp2_with fail
  refine (cI.out _).mono ?_
  rintro e w1 ⟨rfl, rfl⟩
  have h1 := hat.out nq
  obtain ⟨W1, hW1⟩ : ∃ W, (w.drewN nq).setCell ⟨B, 5, none⟩ (.int .u32 (q1 : Int)) = W := ⟨_, rfl⟩
  rw [hW1] at h1 ⊢
  clear hW1 hat cI cA c0 c5 f5 cm g0 g1 g2 g3 hp
  have f6 : W1.frozen? ⟨B, 6, none⟩ = false := (h1.f (i := 6) (v := .bool s.dig) rfl).2
  have c6 : W1.cell? ⟨B, 6, none⟩ = some (.bool s.dig) := (h1.f (i := 6) (v := .bool s.dig) rfl).1
  have h2 := h1.undig
  have c2 := Lib.hid (cP.out _ h2)
  have z := Lib.hid (hfin.out _ h2.on)
  clear h1 h2 hfin cP
  go_wp2_with fail
  refine (c2.out).mono ?_
  rintro e w2 ⟨rfl, rfl⟩
  exact ⟨rfl, z.out⟩
set_option maxHeartbeats 4000000 in
theorem step_call_full (h : At w0 base w B s M E P D C O IA ic (rowV M E D C O IA ic s k)) (hp : s.pc < 262144) {c : Nat} (hc : s.mem s.pc = c) (hcc : c = 58) {a : Nat} {r : List Nat} (hds : s.ds = a :: r) (hl : s.cs.length = 64) : Calls Tryd.prog 84 #[.pointer (some ⟨B, 0, none⟩)] w (StQ w0 base B k s) := by
  have hst := step_is hp hc
  obtain ⟨c0, _⟩ := h.f (i := 0) (v := memV M) rfl
  unfold memV at c0
  obtain ⟨c5, f5⟩ := h.f (i := 5) (v := .int .u32 (s.pc : Int)) rfl
  have cm := h.mem.cell s.pc hp
  rw [hc] at cm
  have cA := Lib.hid (fun W => address_own s.pc hp W)
  have hat := Lib.hid (h.fetched hp)
  have cI := Lib.hid (isDigit_own c)
  obtain ⟨Q, hQ⟩ : ∃ Q, StQ w0 base B k s = Q := ⟨_, rfl⟩
  obtain ⟨q, hq⟩ : ∃ q, s.pc = q := ⟨_, rfl⟩
  rw [hq] at cA c5 cm hp hat
  obtain ⟨q1, hq1⟩ : ∃ q1, q + 1 = q1 := ⟨_, rfl⟩
  rw [hq1] at hat
  have g0 : (0 : Int) ≤ (q : Int) := by omega
  have g1 : (q : Int) < 262144 := by omega
  have g2 : (q : Int) + 1 = (q1 : Int) := by omega
  have g3 : (q1 : Int) < 4294967296 := by omega
  obtain ⟨t32, t10, t64, t58, t59, t44, t46, t36⟩ : Ts c false false false true false false false false := by subst hcc; exact ts_of 58
  have hnd : ¬ (48 ≤ c ∧ c ≤ 57) := by omega
  have cP : ∀ W2, At w0 base W2 B { nxt s with dig := false } M E P D C O IA ic (rowV M E D C O IA ic { nxt s with dig := false } k) → Calls Tryd.prog 121 #[.pointer (some ⟨B, 1, none⟩)] W2 fun e w' => e = .returned (.int .u32 (a : Int)) ∧ ∃ D', At w0 base w' B { nxt s with dig := false, ds := r } M E P D' C O IA ic (rowV M E D' C O IA ic { nxt s with dig := false, ds := r } k) := fun W2 h2 => popD_own h2 rfl hds
  replace cP := Lib.hid cP
  have cC : ∀ W3 D', At w0 base W3 B { nxt s with dig := false, ds := r } M E P D' C O IA ic (rowV M E D' C O IA ic { nxt s with dig := false, ds := r } k) → Calls Tryd.prog 122 #[.pointer (some ⟨B, 0, none⟩), .int .u32 (a : Int)] W3 fun e w' => e = .panicked [tr] ∧ ∃ n, w' = W3.drewN n := fun W3 D' h3 => call_bad h3 a hl
  replace cC := Lib.hid cC
  have hfin : ∀ W2, On w0 base W2 B { nxt s with dig := false, ds := r } k → StQ w0 base B k s (.panicked [tr]) W2 := fun W2 h2 => StQ.trap (s' := { nxt s with dig := false, ds := r }) (by
    rw [hst, hcc]
    show exec _ (nxt s) = _
    obtain ⟨smem, spc, sds, scs, sdig, sinp, sout⟩ := s
    unfold exec nxt
    dsimp only at hds hl ⊢
    simp [hds, hl]) rfl h2
  rw [decide_eq_false hnd] at cI
  rw [hQ] at hfin ⊢
  replace hfin := Lib.hid hfin
  clear hQ hq hq1 hst hnd h hcc hds hl
  go_enter Tryd.func84, Tryd.ntmps84
  go_wp2_with fail
  go_quiet ((go_at_call 118; exact Calls.quiet_of_same (cA.out _)))
  go_wp2_with fail
  refine (cI.out _).mono ?_
  rintro e w1 ⟨rfl, rfl⟩
  have h1 := hat.out nq
  obtain ⟨W1, hW1⟩ : ∃ W, (w.drewN nq).setCell ⟨B, 5, none⟩ (.int .u32 (q1 : Int)) = W := ⟨_, rfl⟩
  rw [hW1] at h1 ⊢
  clear hW1 hat cI cA c0 c5 f5 cm g0 g1 g2 g3 hp
  have f6 : W1.frozen? ⟨B, 6, none⟩ = false := (h1.f (i := 6) (v := .bool s.dig) rfl).2
  have c6 : W1.cell? ⟨B, 6, none⟩ = some (.bool s.dig) := (h1.f (i := 6) (v := .bool s.dig) rfl).1
  have h2 := h1.undig
  have c2 := Lib.hid (cP.out _ h2)
  clear h1 h2 cP
  go_wp2_with fail
  refine (c2.out).mono ?_
  rintro e w2 ⟨rfl, D', h3⟩
  have c3 := Lib.hid (cC.out _ _ h3)
  have z := Lib.hid (fun n => hfin.out _ (h3.drewN n).on)
  clear h3 cC c2
  go_wp2_with fail
  refine (c3.out).mono ?_
  rintro e w3 ⟨rfl, n, rfl⟩
  exact ⟨rfl, z.out n⟩
set_option maxHeartbeats 4000000 in
theorem step_call_own (h : At w0 base w B s M E P D C O IA ic (rowV M E D C O IA ic s k)) (hp : s.pc < 262144) {c : Nat} (hc : s.mem s.pc = c) (hcc : c = 58) {a : Nat} {r : List Nat} (hds : s.ds = a :: r) (hl : s.cs.length < 64) : Calls Tryd.prog 84 #[.pointer (some ⟨B, 0, none⟩)] w (StQ w0 base B k s) := by
  have hst := step_is hp hc
  obtain ⟨c0, _⟩ := h.f (i := 0) (v := memV M) rfl
  unfold memV at c0
  obtain ⟨c5, f5⟩ := h.f (i := 5) (v := .int .u32 (s.pc : Int)) rfl
  have cm := h.mem.cell s.pc hp
  rw [hc] at cm
  have cA := Lib.hid (fun W => address_own s.pc hp W)
  have hat := Lib.hid (h.fetched hp)
  have cI := Lib.hid (isDigit_own c)
  obtain ⟨Q, hQ⟩ : ∃ Q, StQ w0 base B k s = Q := ⟨_, rfl⟩
  obtain ⟨q, hq⟩ : ∃ q, s.pc = q := ⟨_, rfl⟩
  rw [hq] at cA c5 cm hp hat
  obtain ⟨q1, hq1⟩ : ∃ q1, q + 1 = q1 := ⟨_, rfl⟩
  rw [hq1] at hat
  have g0 : (0 : Int) ≤ (q : Int) := by omega
  have g1 : (q : Int) < 262144 := by omega
  have g2 : (q : Int) + 1 = (q1 : Int) := by omega
  have g3 : (q1 : Int) < 4294967296 := by omega
  obtain ⟨t32, t10, t64, t58, t59, t44, t46, t36⟩ : Ts c false false false true false false false false := by subst hcc; exact ts_of 58
  have hnd : ¬ (48 ≤ c ∧ c ≤ 57) := by omega
  have ha : a < 4294967296 := h.ok.ds a (by rw [hds]; simp)
  have hl2 : ¬ 64 ≤ s.cs.length := by omega
  have cP : ∀ W2, At w0 base W2 B { nxt s with dig := false } M E P D C O IA ic (rowV M E D C O IA ic { nxt s with dig := false } k) → Calls Tryd.prog 121 #[.pointer (some ⟨B, 1, none⟩)] W2 fun e w' => e = .returned (.int .u32 (a : Int)) ∧ ∃ D', At w0 base w' B { nxt s with dig := false, ds := r } M E P D' C O IA ic (rowV M E D' C O IA ic { nxt s with dig := false, ds := r } k) := fun W2 h2 => popD_own h2 rfl hds
  replace cP := Lib.hid cP
  have cC : ∀ W3 D', At w0 base W3 B { nxt s with dig := false, ds := r } M E P D' C O IA ic (rowV M E D' C O IA ic { nxt s with dig := false, ds := r } k) → Calls Tryd.prog 122 #[.pointer (some ⟨B, 0, none⟩), .int .u32 (a : Int)] W3 fun e w' => e = .returned (.tuple #[]) ∧ On w0 base w' B { nxt s with dig := false, ds := r, cs := (nxt s).pc :: s.cs, pc := a } k := fun W3 D' h3 => call_own h3 ha hl
  replace cC := Lib.hid cC
  have hfin : ∀ W2, On w0 base W2 B { nxt s with dig := false, ds := r, cs := (nxt s).pc :: s.cs, pc := a } k → StQ w0 base B k s (.returned (.bool false)) W2 := fun W2 h2 => StQ.go (s' := { nxt s with dig := false, ds := r, cs := (nxt s).pc :: s.cs, pc := a }) (by
    rw [hst, hcc]
    show exec _ (nxt s) = _
    obtain ⟨smem, spc, sds, scs, sdig, sinp, sout⟩ := s
    unfold exec nxt
    dsimp only at hds hl2 ⊢
    simp [hds, hl2, nxt]) h2
  rw [decide_eq_false hnd] at cI
  rw [hQ] at hfin ⊢
  replace hfin := Lib.hid hfin
  clear hQ hq hq1 hst hnd h hcc hds hl ha hl2
  go_enter Tryd.func84, Tryd.ntmps84
  go_wp2_with fail
  go_quiet ((go_at_call 118; exact Calls.quiet_of_same (cA.out _)))
  go_wp2_with fail
  refine (cI.out _).mono ?_
  rintro e w1 ⟨rfl, rfl⟩
  have h1 := hat.out nq
  obtain ⟨W1, hW1⟩ : ∃ W, (w.drewN nq).setCell ⟨B, 5, none⟩ (.int .u32 (q1 : Int)) = W := ⟨_, rfl⟩
  rw [hW1] at h1 ⊢
  clear hW1 hat cI cA c0 c5 f5 cm g0 g1 g2 g3 hp
  have f6 : W1.frozen? ⟨B, 6, none⟩ = false := (h1.f (i := 6) (v := .bool s.dig) rfl).2
  have c6 : W1.cell? ⟨B, 6, none⟩ = some (.bool s.dig) := (h1.f (i := 6) (v := .bool s.dig) rfl).1
  have h2 := h1.undig
  have c2 := Lib.hid (cP.out _ h2)
  clear h1 h2 cP
  go_wp2_with fail
  refine (c2.out).mono ?_
  rintro e w2 ⟨rfl, D', h3⟩
  have c3 := Lib.hid (cC.out _ _ h3)
  clear h3 cC c2
  go_wp2_with fail
  refine (c3.out).mono ?_
  rintro e w3 ⟨rfl, h4⟩
  have z := Lib.hid (hfin.out _ h4)
  clear hfin h4 c3
  go_wp2
  first | go_ret | skip
  exact z.out
set_option maxHeartbeats 4000000 in
theorem step_ret_none (h : At w0 base w B s M E P D C O IA ic (rowV M E D C O IA ic s k)) (hp : s.pc < 262144) {c : Nat} (hc : s.mem s.pc = c) (hcc : c = 59) (hds : s.cs = []) : Calls Tryd.prog 84 #[.pointer (some ⟨B, 0, none⟩)] w (StQ w0 base B k s) := by
  have hst := step_is hp hc
  obtain ⟨c0, _⟩ := h.f (i := 0) (v := memV M) rfl
  unfold memV at c0
  obtain ⟨c5, f5⟩ := h.f (i := 5) (v := .int .u32 (s.pc : Int)) rfl
  have cm := h.mem.cell s.pc hp
  rw [hc] at cm
  have cA := Lib.hid (fun W => address_own s.pc hp W)
  have hat := Lib.hid (h.fetched hp)
  have cI := Lib.hid (isDigit_own c)
  obtain ⟨Q, hQ⟩ : ∃ Q, StQ w0 base B k s = Q := ⟨_, rfl⟩
  obtain ⟨q, hq⟩ : ∃ q, s.pc = q := ⟨_, rfl⟩
  rw [hq] at cA c5 cm hp hat
  obtain ⟨q1, hq1⟩ : ∃ q1, q + 1 = q1 := ⟨_, rfl⟩
  rw [hq1] at hat
  have g0 : (0 : Int) ≤ (q : Int) := by omega
  have g1 : (q : Int) < 262144 := by omega
  have g2 : (q : Int) + 1 = (q1 : Int) := by omega
  have g3 : (q1 : Int) < 4294967296 := by omega
  obtain ⟨t32, t10, t64, t58, t59, t44, t46, t36⟩ : Ts c false false false false true false false false := by subst hcc; exact ts_of 59
  have hnd : ¬ (48 ≤ c ∧ c ≤ 57) := by omega
  have cP : ∀ W2, At w0 base W2 B { nxt s with dig := false } M E P D C O IA ic (rowV M E D C O IA ic { nxt s with dig := false } k) → Calls Tryd.prog 121 #[.pointer (some ⟨B, 3, none⟩)] W2 fun e w' => e = .panicked [tr] ∧ w' = W2 := fun W2 h2 => popC_bad h2 rfl hds
  replace cP := Lib.hid cP
  have hfin : ∀ W2, On w0 base W2 B { nxt s with dig := false } k → StQ w0 base B k s (.panicked [tr]) W2 := fun W2 h2 => StQ.trap (s' := { nxt s with dig := false }) (by
    rw [hst, hcc]
    show exec _ (nxt s) = _
    obtain ⟨smem, spc, sds, scs, sdig, sinp, sout⟩ := s
    unfold exec nxt
    dsimp only at hds ⊢
    simp [hds]) rfl h2
  rw [decide_eq_false hnd] at cI
  rw [hQ] at hfin ⊢
  replace hfin := Lib.hid hfin
  clear hQ hq hq1 hst hnd h hcc hds
  go_enter Tryd.func84, Tryd.ntmps84
  go_wp2_with fail
  go_quiet ((go_at_call 118; exact Calls.quiet_of_same (cA.out _)))
  go_wp2_with fail
  refine (cI.out _).mono ?_
  rintro e w1 ⟨rfl, rfl⟩
  have h1 := hat.out nq
  obtain ⟨W1, hW1⟩ : ∃ W, (w.drewN nq).setCell ⟨B, 5, none⟩ (.int .u32 (q1 : Int)) = W := ⟨_, rfl⟩
  rw [hW1] at h1 ⊢
  clear hW1 hat cI cA c0 c5 f5 cm g0 g1 g2 g3 hp
  have f6 : W1.frozen? ⟨B, 6, none⟩ = false := (h1.f (i := 6) (v := .bool s.dig) rfl).2
  have c6 : W1.cell? ⟨B, 6, none⟩ = some (.bool s.dig) := (h1.f (i := 6) (v := .bool s.dig) rfl).1
  have h2 := h1.undig
  have c2 := Lib.hid (cP.out _ h2)
  have z := Lib.hid (hfin.out _ h2.on)
  clear h1 h2 hfin cP
  go_wp2_with fail
  refine (c2.out).mono ?_
  rintro e w2 ⟨rfl, rfl⟩
  exact ⟨rfl, z.out⟩
set_option maxHeartbeats 4000000 in
theorem step_ret_own (h : At w0 base w B s M E P D C O IA ic (rowV M E D C O IA ic s k)) (hp : s.pc < 262144) {c : Nat} (hc : s.mem s.pc = c) (hcc : c = 59) {a : Nat} {r : List Nat} (hds : s.cs = a :: r) : Calls Tryd.prog 84 #[.pointer (some ⟨B, 0, none⟩)] w (StQ w0 base B k s) := by
  have hst := step_is hp hc
  obtain ⟨c0, _⟩ := h.f (i := 0) (v := memV M) rfl
  unfold memV at c0
  obtain ⟨c5, f5⟩ := h.f (i := 5) (v := .int .u32 (s.pc : Int)) rfl
  have cm := h.mem.cell s.pc hp
  rw [hc] at cm
  have cA := Lib.hid (fun W => address_own s.pc hp W)
  have hat := Lib.hid (h.fetched hp)
  have cI := Lib.hid (isDigit_own c)
  obtain ⟨Q, hQ⟩ : ∃ Q, StQ w0 base B k s = Q := ⟨_, rfl⟩
  obtain ⟨q, hq⟩ : ∃ q, s.pc = q := ⟨_, rfl⟩
  rw [hq] at cA c5 cm hp hat
  obtain ⟨q1, hq1⟩ : ∃ q1, q + 1 = q1 := ⟨_, rfl⟩
  rw [hq1] at hat
  have g0 : (0 : Int) ≤ (q : Int) := by omega
  have g1 : (q : Int) < 262144 := by omega
  have g2 : (q : Int) + 1 = (q1 : Int) := by omega
  have g3 : (q1 : Int) < 4294967296 := by omega
  obtain ⟨t32, t10, t64, t58, t59, t44, t46, t36⟩ : Ts c false false false false true false false false := by subst hcc; exact ts_of 59
  have hnd : ¬ (48 ≤ c ∧ c ≤ 57) := by omega
  have ha : a < 4294967296 := h.ok.cs a (by rw [hds]; simp)
  have cP : ∀ W2, At w0 base W2 B { nxt s with dig := false } M E P D C O IA ic (rowV M E D C O IA ic { nxt s with dig := false } k) → Calls Tryd.prog 121 #[.pointer (some ⟨B, 3, none⟩)] W2 fun e w' => e = .returned (.int .u32 (a : Int)) ∧ ∃ C', At w0 base w' B { nxt s with dig := false, cs := r } M E P D C' O IA ic (rowV M E D C' O IA ic { nxt s with dig := false, cs := r } k) := fun W2 h2 => popC_own h2 rfl hds
  replace cP := Lib.hid cP
  have hfin : ∀ W2, On w0 base W2 B { nxt s with dig := false, cs := r, pc := a } k → StQ w0 base B k s (.returned (.bool false)) W2 := fun W2 h2 => StQ.go (s' := { nxt s with dig := false, cs := r, pc := a }) (by
    rw [hst, hcc]
    show exec _ (nxt s) = _
    obtain ⟨smem, spc, sds, scs, sdig, sinp, sout⟩ := s
    unfold exec nxt
    dsimp only at hds ⊢
    simp [hds]) h2
  have hput : ∀ W3 C', At w0 base W3 B { nxt s with dig := false, cs := r } M E P D C' O IA ic (rowV M E D C' O IA ic { nxt s with dig := false, cs := r } k) → W3.frozen? ⟨B, 5, none⟩ = false ∧ (∃ u, W3.cell? ⟨B, 5, none⟩ = some u) ∧ On w0 base (W3.setCell ⟨B, 5, none⟩ (.int .u32 (a : Int))) B { nxt s with dig := false, cs := r, pc := a } k := fun W3 C' h3 => by
    obtain ⟨e1, e2⟩ := h3.f (i := 5) (v := .int .u32 ((nxt s).pc : Int)) rfl
    exact ⟨e2, ⟨_, e1⟩, At.on ((h3.field 5 (.int .u32 (a : Int))).st (s' := { nxt s with dig := false, cs := r, pc := a }) rfl rfl rfl rfl rfl ⟨h3.ok.mem, ha, h3.ok.ds, h3.ok.cs, h3.ok.inp, h3.ok.dl, h3.ok.cl⟩)⟩
  replace hput := Lib.hid hput
  rw [decide_eq_false hnd] at cI
  rw [hQ] at hfin ⊢
  replace hfin := Lib.hid hfin
  clear hQ hq hq1 hst hnd h hcc hds ha
  go_enter Tryd.func84, Tryd.ntmps84
  go_wp2_with fail
  go_quiet ((go_at_call 118; exact Calls.quiet_of_same (cA.out _)))
  go_wp2_with fail
  refine (cI.out _).mono ?_
  rintro e w1 ⟨rfl, rfl⟩
  have h1 := hat.out nq
  obtain ⟨W1, hW1⟩ : ∃ W, (w.drewN nq).setCell ⟨B, 5, none⟩ (.int .u32 (q1 : Int)) = W := ⟨_, rfl⟩
  rw [hW1] at h1 ⊢
  clear hW1 hat cI cA c0 c5 f5 cm g0 g1 g2 g3 hp
  have f6 : W1.frozen? ⟨B, 6, none⟩ = false := (h1.f (i := 6) (v := .bool s.dig) rfl).2
  have c6 : W1.cell? ⟨B, 6, none⟩ = some (.bool s.dig) := (h1.f (i := 6) (v := .bool s.dig) rfl).1
  have h2 := h1.undig
  have c2 := Lib.hid (cP.out _ h2)
  clear h1 h2 cP
  go_wp2_with fail
  refine (c2.out).mono ?_
  rintro e w2 ⟨rfl, C', h3⟩
  obtain ⟨z1, ⟨u, z2⟩, z3⟩ := hput.out _ _ h3
  have z := Lib.hid (hfin.out _ z3)
  clear h3 hput hfin c2 z3
  go_wp2
  first | go_ret | skip
  exact z.out
end
end Go.Proofs.YthmgocjmfhpafaaDoor.M17
