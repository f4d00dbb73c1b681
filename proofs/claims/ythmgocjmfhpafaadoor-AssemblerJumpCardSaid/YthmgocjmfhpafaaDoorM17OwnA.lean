/- The landed step of layer 17: loads, input. -/
import Derived.Test.YthmgocjmfhpafaaDoorM17Own9
import Derived.Deep.RegionWith
namespace Go.Proofs.YthmgocjmfhpafaaDoor.M17
set_option maxRecDepth 100000
open Go.RowKit Mem Go.Shelf
set_option linter.unusedVariables false
set_option linter.unusedSimpArgs false
section
variable {w0 w : World} {base B k M E P ic : Nat} {s : St} {D C O : Value} {IA : Option Addr} {vs : List Value}
set_option maxHeartbeats 4000000 in
theorem step_load_none (h : At w0 base w B s M E P D C O IA ic (rowV M E D C O IA ic s k)) (hp : s.pc < 262144) {c : Nat} (hc : s.mem s.pc = c) (hcc : c = 64) (hds : s.ds = []) : Calls Tryd.prog 84 #[.pointer (some ⟨B, 0, none⟩)] w (StQ w0 base B k s) := by
  have hst := step_is hp hc
  obtain ⟨c0, _⟩ := h.f (i := 0) (v := memV M) rfl
  unfold memV at c0
  obtain ⟨c5, f5⟩ := h.f (i := 5) (v := .int .u32 (s.pc : Int)) rfl
  have cm := h.mem.cell s.pc hp
  rw [hc] at cm
  have cA := Lib.hid (fun W => address_own s.pc hp W)
  have hat := Lib.hid (h.fetched hp)
  have cI := Lib.hid (isDigit_own c)
  obtain ⟨Q, hQ⟩ : ∃ Q, StQ w0 base B k s = Q := ⟨_, rfl⟩
  obtain ⟨q, hq⟩ : ∃ q, s.pc = q := ⟨_, rfl⟩
  rw [hq] at cA c5 cm hp hat
  obtain ⟨q1, hq1⟩ : ∃ q1, q + 1 = q1 := ⟨_, rfl⟩
  rw [hq1] at hat
  have g0 : (0 : Int) ≤ (q : Int) := by omega
  have g1 : (q : Int) < 262144 := by omega
  have g2 : (q : Int) + 1 = (q1 : Int) := by omega
  have g3 : (q1 : Int) < 4294967296 := by omega
  obtain ⟨t32, t10, t64, t58, t59, t44, t46, t36⟩ : Ts c false false true false false false false false := by subst hcc; exact ts_of 64
  have hnd : ¬ (48 ≤ c ∧ c ≤ 57) := by omega
  have cP : ∀ W2, At w0 base W2 B { nxt s with dig := false } M E P D C O IA ic (rowV M E D C O IA ic { nxt s with dig := false } k) → Calls Tryd.prog 121 #[.pointer (some ⟨B, 1, none⟩)] W2 fun e w' => e = .panicked [tr] ∧ w' = W2 := fun W2 h2 => popD_bad h2 rfl hds
  replace cP := Lib.hid cP
  have hfin : ∀ W2, On w0 base W2 B { nxt s with dig := false } k → StQ w0 base B k s (.panicked [tr]) W2 := fun W2 h2 => StQ.trap (s' := { nxt s with dig := false }) (by
    rw [hst, hcc]
    show exec _ (nxt s) = _
    obtain ⟨smem, spc, sds, scs, sdig, sinp, sout⟩ := s
    unfold exec nxt
    dsimp only at hds ⊢
    simp [hds]) rfl h2
  rw [decide_eq_false hnd] at cI
  rw [hQ] at hfin ⊢
  replace hfin := Lib.hid hfin
  clear hQ hq hq1 hst hnd h hcc hds
  go_enter Tryd.func84, Tryd.ntmps84
  go_wp2_with fail
  go_quiet ((go_at_call 118; exact Calls.quiet_of_same (cA.out _)))
  go_wp2_with fail
  refine (cI.out _).mono ?_
  rintro e w1 ⟨rfl, rfl⟩
  have h1 := hat.out nq
  obtain ⟨W1, hW1⟩ : ∃ W, (w.drewN nq).setCell ⟨B, 5, none⟩ (.int .u32 (q1 : Int)) = W := ⟨_, rfl⟩
  rw [hW1] at h1 ⊢
  clear hW1 hat cI cA c0 c5 f5 cm g0 g1 g2 g3 hp
  have f6 : W1.frozen? ⟨B, 6, none⟩ = false := (h1.f (i := 6) (v := .bool s.dig) rfl).2
  have c6 : W1.cell? ⟨B, 6, none⟩ = some (.bool s.dig) := (h1.f (i := 6) (v := .bool s.dig) rfl).1
  have h2 := h1.undig
  have c0 : W1.cell? ⟨B, 0, none⟩ = some (.slice (some ⟨M, 0, none⟩) 262144 262144) := (h1.f (i := 0) (v := memV M) rfl).1
  have c2 := Lib.hid (cP.out _ h2.drew)
  have z := Lib.hid (hfin.out _ h2.drew.on)
  clear h1 h2 hfin cP
  go_wp2_with fail
  refine wp_region_held_drew (S := fun W => W = (W1.setCell ⟨B, 6, none⟩ (.bool false)).drew) (by kernel_rfl) rfl (fun hHeld => ?_)
  refine wpAnyH_take (i := 0) (v := .pointer (some ⟨B, 0, none⟩)) rfl (by kernel_rfl) (by kernel_rfl) (by kernel_rfl) (fun _ _ _ h => h) (Or.inl ⟨by rfl, ?h0⟩) (by assumption) ?r0
  case h0 =>
    intro W hW
    subst hW
    go_simp
  simp only [Act.put, List.setIfInBounds_toArray, List.set_cons_zero, List.set_cons_succ]
  refine wpAnyH_take (i := 1) (v := .pointer (some ⟨B, 0, none⟩)) rfl (by kernel_rfl) (by kernel_rfl) (by kernel_rfl) (fun _ _ _ h => h) (Or.inl ⟨by rfl, ?h1⟩) (by assumption) ?r1
  case h1 =>
    intro W hW
    subst hW
    go_simp
  simp only [Act.put, List.setIfInBounds_toArray, List.set_cons_zero, List.set_cons_succ]
  refine wpAnyH_take (i := 2) (v := .pointer (some ⟨B, 1, none⟩)) rfl (by kernel_rfl) (by kernel_rfl) (by kernel_rfl) (fun _ _ _ h => h) (Or.inl ⟨by rfl, ?h2⟩) (by assumption) ?r2
  case h2 =>
    intro W hW
    subst hW
    go_simp
  simp only [Act.put, List.setIfInBounds_toArray, List.set_cons_zero, List.set_cons_succ]
  refine wpAnyH_take (i := 3) (v := .pointer (some ⟨B, 0, none⟩)) rfl (by kernel_rfl) (by kernel_rfl) (by kernel_rfl) (fun _ _ _ h => h) (Or.inl ⟨by rfl, ?h3⟩) (by assumption) ?r3
  case h3 =>
    intro W hW
    subst hW
    go_simp
  simp only [Act.put, List.setIfInBounds_toArray, List.set_cons_zero, List.set_cons_succ]
  refine wpAnyH_take (i := 4) (v := .pointer (some ⟨B, 0, none⟩)) rfl (by kernel_rfl) (by kernel_rfl) (by kernel_rfl) (fun _ _ _ h => h) (Or.inl ⟨by rfl, ?h4⟩) (by assumption) ?r4
  case h4 =>
    intro W hW
    subst hW
    go_simp
  simp only [Act.put, List.setIfInBounds_toArray, List.set_cons_zero, List.set_cons_succ]
  refine wpAnyH_take (i := 5) (v := .pointer (some ⟨B, 0, none⟩)) rfl (by kernel_rfl) (by kernel_rfl) (by kernel_rfl) (fun _ _ _ h => h) (Or.inl ⟨by rfl, ?h5⟩) (by assumption) ?r5
  case h5 =>
    intro W hW
    subst hW
    go_simp
  simp only [Act.put, List.setIfInBounds_toArray, List.set_cons_zero, List.set_cons_succ]
  refine wpAnyH_take (i := 6) (v := .slice (some ⟨M, 0, none⟩) 262144 262144) rfl (by kernel_rfl) (by kernel_rfl) (by kernel_rfl) (fun _ _ _ h => h) (Or.inl ⟨by rfl, ?h6⟩) (by assumption) ?r6
  case h6 =>
    intro W hW
    subst hW
    go_simp
  simp only [Act.put, List.setIfInBounds_toArray, List.set_cons_zero, List.set_cons_succ]
  refine wpAnyH_take (i := 7) (v := .pointer (some ⟨B, 0, none⟩)) rfl (by kernel_rfl) (by kernel_rfl) (by kernel_rfl) (fun _ _ _ h => h) (Or.inl ⟨by rfl, ?h7⟩) (by assumption) ?r7
  case h7 =>
    intro W hW
    subst hW
    go_simp
  simp only [Act.put, List.setIfInBounds_toArray, List.set_cons_zero, List.set_cons_succ]
  refine wpAnyH_take (i := 8) (v := .pointer (some ⟨B, 0, none⟩)) rfl (by kernel_rfl) (by kernel_rfl) (by kernel_rfl) (fun _ _ _ h => h) (Or.inl ⟨by rfl, ?h8⟩) (by assumption) ?r8
  case h8 =>
    intro W hW
    subst hW
    go_simp
  simp only [Act.put, List.setIfInBounds_toArray, List.set_cons_zero, List.set_cons_succ]
  refine wpAnyH_take (i := 9) (v := .pointer (some ⟨B, 1, none⟩)) rfl (by kernel_rfl) (by kernel_rfl) (by kernel_rfl) (fun _ _ _ h => h) (Or.inl ⟨by rfl, ?h9⟩) (by assumption) ?r9
  case h9 =>
    intro W hW
    subst hW
    go_simp
  simp only [Act.put, List.setIfInBounds_toArray, List.set_cons_zero, List.set_cons_succ]
  refine wpAnyH_ready (rs := [10]) (by kernel_rfl) (by simp) ?_
  refine AllReadyH.cons rfl (fun K hK => ?_) AllReadyH.nil
  go_simp
  refine (c2.out).mono ?_
  rintro e w2 ⟨rfl, rfl⟩
  exact ⟨rfl, z.out⟩
set_option maxHeartbeats 4000000 in
theorem step_load_bad (h : At w0 base w B s M E P D C O IA ic (rowV M E D C O IA ic s k)) (hp : s.pc < 262144) {c : Nat} (hc : s.mem s.pc = c) (hcc : c = 64) {a : Nat} {r : List Nat} (hds : s.ds = a :: r) (hb : ¬ a < 262144) : Calls Tryd.prog 84 #[.pointer (some ⟨B, 0, none⟩)] w (StQ w0 base B k s) := by
  have hst := step_is hp hc
  obtain ⟨c0, _⟩ := h.f (i := 0) (v := memV M) rfl
  unfold memV at c0
  obtain ⟨c5, f5⟩ := h.f (i := 5) (v := .int .u32 (s.pc : Int)) rfl
  have cm := h.mem.cell s.pc hp
  rw [hc] at cm
  have cA := Lib.hid (fun W => address_own s.pc hp W)
  have hat := Lib.hid (h.fetched hp)
  have cI := Lib.hid (isDigit_own c)
  obtain ⟨Q, hQ⟩ : ∃ Q, StQ w0 base B k s = Q := ⟨_, rfl⟩
  obtain ⟨q, hq⟩ : ∃ q, s.pc = q := ⟨_, rfl⟩
  rw [hq] at cA c5 cm hp hat
  obtain ⟨q1, hq1⟩ : ∃ q1, q + 1 = q1 := ⟨_, rfl⟩
  rw [hq1] at hat
  have g0 : (0 : Int) ≤ (q : Int) := by omega
  have g1 : (q : Int) < 262144 := by omega
  have g2 : (q : Int) + 1 = (q1 : Int) := by omega
  have g3 : (q1 : Int) < 4294967296 := by omega
  obtain ⟨t32, t10, t64, t58, t59, t44, t46, t36⟩ : Ts c false false true false false false false false := by subst hcc; exact ts_of 64
  have hnd : ¬ (48 ≤ c ∧ c ≤ 57) := by omega
  have cP : ∀ W2, At w0 base W2 B { nxt s with dig := false } M E P D C O IA ic (rowV M E D C O IA ic { nxt s with dig := false } k) → Calls Tryd.prog 121 #[.pointer (some ⟨B, 1, none⟩)] W2 fun e w' => e = .returned (.int .u32 (a : Int)) ∧ ∃ D', At w0 base w' B { nxt s with dig := false, ds := r } M E P D' C O IA ic (rowV M E D' C O IA ic { nxt s with dig := false, ds := r } k) := fun W2 h2 => popD_own h2 rfl hds
  replace cP := Lib.hid cP
  have hb2 : 262144 ≤ a := by omega
  have cB := Lib.hid (fun W => address_bad a hb W)
  have hfin : ∀ W2, On w0 base W2 B { nxt s with dig := false, ds := r } k → StQ w0 base B k s (.panicked [tr]) W2 := fun W2 h2 => StQ.trap (s' := { nxt s with dig := false, ds := r }) (by
    rw [hst, hcc]
    show exec _ (nxt s) = _
    obtain ⟨smem, spc, sds, scs, sdig, sinp, sout⟩ := s
    unfold exec nxt
    dsimp only at hds ⊢
    simp [hds, hb2]) rfl h2
  rw [decide_eq_false hnd] at cI
  rw [hQ] at hfin ⊢
  replace hfin := Lib.hid hfin
  clear hQ hq hq1 hst hnd h hcc hds hb hb2
  go_enter Tryd.func84, Tryd.ntmps84
  go_wp2_with fail
  go_quiet ((go_at_call 118; exact Calls.quiet_of_same (cA.out _)))
  go_wp2_with fail
  refine (cI.out _).mono ?_
  rintro e w1 ⟨rfl, rfl⟩
  have h1 := hat.out nq
  obtain ⟨W1, hW1⟩ : ∃ W, (w.drewN nq).setCell ⟨B, 5, none⟩ (.int .u32 (q1 : Int)) = W := ⟨_, rfl⟩
  rw [hW1] at h1 ⊢
  clear hW1 hat cI cA c0 c5 f5 cm g0 g1 g2 g3 hp
  have f6 : W1.frozen? ⟨B, 6, none⟩ = false := (h1.f (i := 6) (v := .bool s.dig) rfl).2
  have c6 : W1.cell? ⟨B, 6, none⟩ = some (.bool s.dig) := (h1.f (i := 6) (v := .bool s.dig) rfl).1
  have h2 := h1.undig
  have c0 : W1.cell? ⟨B, 0, none⟩ = some (.slice (some ⟨M, 0, none⟩) 262144 262144) := (h1.f (i := 0) (v := memV M) rfl).1
  have c2 := Lib.hid (cP.out _ h2.drew)
  clear h1 h2 cP
  go_wp2_with fail
  refine wp_region_held_drew (S := fun W => W.cell? ⟨B, 0, none⟩ = some (.slice (some ⟨M, 0, none⟩) 262144 262144)) (by kernel_rfl) (by go_simp) (fun hHeld => ?_)
  refine wpAnyH_take (i := 0) (v := .pointer (some ⟨B, 0, none⟩)) rfl (by kernel_rfl) (by kernel_rfl) (by kernel_rfl) (fun _ _ _ h => h) (Or.inl ⟨by rfl, ?h0⟩) (by assumption) ?r0
  case h0 =>
    intro W hW
    replace hW : W.cell? ⟨B, 0, none⟩ = some (.slice (some ⟨M, 0, none⟩) 262144 262144) := hW
    go_simp
  simp only [Act.put, List.setIfInBounds_toArray, List.set_cons_zero, List.set_cons_succ]
  refine wpAnyH_take (i := 1) (v := .pointer (some ⟨B, 0, none⟩)) rfl (by kernel_rfl) (by kernel_rfl) (by kernel_rfl) (fun _ _ _ h => h) (Or.inl ⟨by rfl, ?h1⟩) (by assumption) ?r1
  case h1 =>
    intro W hW
    replace hW : W.cell? ⟨B, 0, none⟩ = some (.slice (some ⟨M, 0, none⟩) 262144 262144) := hW
    go_simp
  simp only [Act.put, List.setIfInBounds_toArray, List.set_cons_zero, List.set_cons_succ]
  refine wpAnyH_take (i := 2) (v := .pointer (some ⟨B, 1, none⟩)) rfl (by kernel_rfl) (by kernel_rfl) (by kernel_rfl) (fun _ _ _ h => h) (Or.inl ⟨by rfl, ?h2⟩) (by assumption) ?r2
  case h2 =>
    intro W hW
    replace hW : W.cell? ⟨B, 0, none⟩ = some (.slice (some ⟨M, 0, none⟩) 262144 262144) := hW
    go_simp
  simp only [Act.put, List.setIfInBounds_toArray, List.set_cons_zero, List.set_cons_succ]
  refine wpAnyH_take (i := 3) (v := .pointer (some ⟨B, 0, none⟩)) rfl (by kernel_rfl) (by kernel_rfl) (by kernel_rfl) (fun _ _ _ h => h) (Or.inl ⟨by rfl, ?h3⟩) (by assumption) ?r3
  case h3 =>
    intro W hW
    replace hW : W.cell? ⟨B, 0, none⟩ = some (.slice (some ⟨M, 0, none⟩) 262144 262144) := hW
    go_simp
  simp only [Act.put, List.setIfInBounds_toArray, List.set_cons_zero, List.set_cons_succ]
  refine wpAnyH_take (i := 4) (v := .pointer (some ⟨B, 0, none⟩)) rfl (by kernel_rfl) (by kernel_rfl) (by kernel_rfl) (fun _ _ _ h => h) (Or.inl ⟨by rfl, ?h4⟩) (by assumption) ?r4
  case h4 =>
    intro W hW
    replace hW : W.cell? ⟨B, 0, none⟩ = some (.slice (some ⟨M, 0, none⟩) 262144 262144) := hW
    go_simp
  simp only [Act.put, List.setIfInBounds_toArray, List.set_cons_zero, List.set_cons_succ]
  refine wpAnyH_take (i := 5) (v := .pointer (some ⟨B, 0, none⟩)) rfl (by kernel_rfl) (by kernel_rfl) (by kernel_rfl) (fun _ _ _ h => h) (Or.inl ⟨by rfl, ?h5⟩) (by assumption) ?r5
  case h5 =>
    intro W hW
    replace hW : W.cell? ⟨B, 0, none⟩ = some (.slice (some ⟨M, 0, none⟩) 262144 262144) := hW
    go_simp
  simp only [Act.put, List.setIfInBounds_toArray, List.set_cons_zero, List.set_cons_succ]
  refine wpAnyH_take (i := 6) (v := .slice (some ⟨M, 0, none⟩) 262144 262144) rfl (by kernel_rfl) (by kernel_rfl) (by kernel_rfl) (fun _ _ _ h => h) (Or.inl ⟨by rfl, ?h6⟩) (by assumption) ?r6
  case h6 =>
    intro W hW
    replace hW : W.cell? ⟨B, 0, none⟩ = some (.slice (some ⟨M, 0, none⟩) 262144 262144) := hW
    go_simp
  simp only [Act.put, List.setIfInBounds_toArray, List.set_cons_zero, List.set_cons_succ]
  refine wpAnyH_take (i := 7) (v := .pointer (some ⟨B, 0, none⟩)) rfl (by kernel_rfl) (by kernel_rfl) (by kernel_rfl) (fun _ _ _ h => h) (Or.inl ⟨by rfl, ?h7⟩) (by assumption) ?r7
  case h7 =>
    intro W hW
    replace hW : W.cell? ⟨B, 0, none⟩ = some (.slice (some ⟨M, 0, none⟩) 262144 262144) := hW
    go_simp
  simp only [Act.put, List.setIfInBounds_toArray, List.set_cons_zero, List.set_cons_succ]
  refine wpAnyH_take (i := 8) (v := .pointer (some ⟨B, 0, none⟩)) rfl (by kernel_rfl) (by kernel_rfl) (by kernel_rfl) (fun _ _ _ h => h) (Or.inl ⟨by rfl, ?h8⟩) (by assumption) ?r8
  case h8 =>
    intro W hW
    replace hW : W.cell? ⟨B, 0, none⟩ = some (.slice (some ⟨M, 0, none⟩) 262144 262144) := hW
    go_simp
  simp only [Act.put, List.setIfInBounds_toArray, List.set_cons_zero, List.set_cons_succ]
  refine wpAnyH_take (i := 9) (v := .pointer (some ⟨B, 1, none⟩)) rfl (by kernel_rfl) (by kernel_rfl) (by kernel_rfl) (fun _ _ _ h => h) (Or.inl ⟨by rfl, ?h9⟩) (by assumption) ?r9
  case h9 =>
    intro W hW
    replace hW : W.cell? ⟨B, 0, none⟩ = some (.slice (some ⟨M, 0, none⟩) 262144 262144) := hW
    go_simp
  simp only [Act.put, List.setIfInBounds_toArray, List.set_cons_zero, List.set_cons_succ]
  refine wpAnyH_ready (rs := [10]) (by kernel_rfl) (by simp) ?_
  refine AllReadyH.cons rfl (fun K hK => ?_) AllReadyH.nil
  go_simp
  refine (c2.out).mono ?_
  rintro e w2 ⟨rfl, D', h3⟩
  have z := Lib.hid (hfin.out _ h3.on)
  refine hK.out _ _ ((h3.f (i := 0) (v := memV M) rfl).1) (fun hHeld2 => ?_)
  try simp only [Act.put, List.setIfInBounds_toArray, List.set_cons_zero, List.set_cons_succ]
  refine wpAnyH_ready (rs := [11]) (by kernel_rfl) (by simp) ?_
  refine AllReadyH.cons rfl (fun K hK => ?_) AllReadyH.nil
  go_simp
  refine (cB.out _).mono ?_
  rintro e w3 ⟨rfl, rfl⟩
  exact ⟨rfl, z.out⟩
set_option maxHeartbeats 4000000 in
theorem step_load_own (h : At w0 base w B s M E P D C O IA ic (rowV M E D C O IA ic s k)) (hp : s.pc < 262144) {c : Nat} (hc : s.mem s.pc = c) (hcc : c = 64) {a : Nat} {r : List Nat} (hds : s.ds = a :: r) (hb : a < 262144) : Calls Tryd.prog 84 #[.pointer (some ⟨B, 0, none⟩)] w (StQ w0 base B k s) := by
  have hst := step_is hp hc
  obtain ⟨c0, _⟩ := h.f (i := 0) (v := memV M) rfl
  unfold memV at c0
  obtain ⟨c5, f5⟩ := h.f (i := 5) (v := .int .u32 (s.pc : Int)) rfl
  have cm := h.mem.cell s.pc hp
  rw [hc] at cm
  have cA := Lib.hid (fun W => address_own s.pc hp W)
  have hat := Lib.hid (h.fetched hp)
  have cI := Lib.hid (isDigit_own c)
  obtain ⟨Q, hQ⟩ : ∃ Q, StQ w0 base B k s = Q := ⟨_, rfl⟩
  obtain ⟨q, hq⟩ : ∃ q, s.pc = q := ⟨_, rfl⟩
  rw [hq] at cA c5 cm hp hat
  obtain ⟨q1, hq1⟩ : ∃ q1, q + 1 = q1 := ⟨_, rfl⟩
  rw [hq1] at hat
  have g0 : (0 : Int) ≤ (q : Int) := by omega
  have g1 : (q : Int) < 262144 := by omega
  have g2 : (q : Int) + 1 = (q1 : Int) := by omega
  have g3 : (q1 : Int) < 4294967296 := by omega
  obtain ⟨t32, t10, t64, t58, t59, t44, t46, t36⟩ : Ts c false false true false false false false false := by subst hcc; exact ts_of 64
  have hnd : ¬ (48 ≤ c ∧ c ≤ 57) := by omega
  have cP : ∀ W2, At w0 base W2 B { nxt s with dig := false } M E P D C O IA ic (rowV M E D C O IA ic { nxt s with dig := false } k) → Calls Tryd.prog 121 #[.pointer (some ⟨B, 1, none⟩)] W2 fun e w' => e = .returned (.int .u32 (a : Int)) ∧ ∃ D', At w0 base w' B { nxt s with dig := false, ds := r } M E P D' C O IA ic (rowV M E D' C O IA ic { nxt s with dig := false, ds := r } k) := fun W2 h2 => popD_own h2 rfl hds
  replace cP := Lib.hid cP
  have hb2 : ¬ 262144 ≤ a := by omega
  have cB := Lib.hid (fun W => address_own a hb W)
  have hlen : r.length < 256 := by have := h.ok.dl; rw [hds] at this; simp only [List.length_cons] at this; omega
  obtain ⟨v, hv⟩ : ∃ v, s.mem a = v := ⟨_, rfl⟩
  have hv2 : v < 4294967296 := hv ▸ h.ok.mem a
  have cU : ∀ W3 D', At w0 base W3 B { nxt s with dig := false, ds := r } M E P D' C O IA ic (rowV M E D' C O IA ic { nxt s with dig := false, ds := r } k) → Calls Tryd.prog 108 #[.pointer (some ⟨B, 1, none⟩), .int .u32 (v : Int)] W3 fun e w' => e = .returned (.tuple #[]) ∧ On w0 base w' B { nxt s with dig := false, ds := v :: r } k := fun W3 D' h3 => push_on h3 hlen hv2
  have cM : ∀ W3 D', At w0 base W3 B { nxt s with dig := false, ds := r } M E P D' C O IA ic (rowV M E D' C O IA ic { nxt s with dig := false, ds := r } k) → W3.cell? ⟨B, 0, none⟩ = some (.slice (some ⟨M, 0, none⟩) 262144 262144) ∧ W3.cell? ⟨M, a, none⟩ = some (.int .u32 (v : Int)) := fun W3 D' h3 => ⟨(h3.f (i := 0) (v := memV M) rfl).1, by
    have := h3.mem.cell a hb
    rw [← hv]
    exact this⟩
  replace cU := Lib.hid cU
  replace cM := Lib.hid cM
  have b0 : (0 : Int) ≤ (a : Int) := by omega
  have b1 : (a : Int) < 262144 := by omega
  have hfin : ∀ W2, On w0 base W2 B { nxt s with dig := false, ds := v :: r } k → StQ w0 base B k s (.returned (.bool false)) W2 := fun W2 h2 => StQ.go (s' := { nxt s with dig := false, ds := v :: r }) (by
    rw [hst, hcc]
    show exec _ (nxt s) = _
    obtain ⟨smem, spc, sds, scs, sdig, sinp, sout⟩ := s
    unfold exec nxt
    dsimp only at hds hv ⊢
    simp [hds, hb2, hv]) h2
  rw [decide_eq_false hnd] at cI
  rw [hQ] at hfin ⊢
  replace hfin := Lib.hid hfin
  clear hQ hq hq1 hst hnd h hcc hds hb hb2 hlen hv hv2
  go_enter Tryd.func84, Tryd.ntmps84
  go_wp2_with fail
  go_quiet ((go_at_call 118; exact Calls.quiet_of_same (cA.out _)))
  go_wp2_with fail
  refine (cI.out _).mono ?_
  rintro e w1 ⟨rfl, rfl⟩
  have h1 := hat.out nq
  obtain ⟨W1, hW1⟩ : ∃ W, (w.drewN nq).setCell ⟨B, 5, none⟩ (.int .u32 (q1 : Int)) = W := ⟨_, rfl⟩
  rw [hW1] at h1 ⊢
  clear hW1 hat cI cA c0 c5 f5 cm g0 g1 g2 g3 hp
  have f6 : W1.frozen? ⟨B, 6, none⟩ = false := (h1.f (i := 6) (v := .bool s.dig) rfl).2
  have c6 : W1.cell? ⟨B, 6, none⟩ = some (.bool s.dig) := (h1.f (i := 6) (v := .bool s.dig) rfl).1
  have h2 := h1.undig
  have c0 : W1.cell? ⟨B, 0, none⟩ = some (.slice (some ⟨M, 0, none⟩) 262144 262144) := (h1.f (i := 0) (v := memV M) rfl).1
  have c2 := Lib.hid (cP.out _ h2.drew)
  clear h1 h2 cP
  go_wp2_with fail
  go_region_with (first
    | (go_at_call 121; refine (c2.out).mono ?_; rintro e w2 ⟨rfl, D', h3⟩; replace h3 := Lib.hid h3; obtain ⟨k1, k2⟩ := cM.out _ _ h3.out)
    | (go_at_call 118; refine (cB.out _).mono ?_; rintro e w4 ⟨rfl, rfl⟩)
    | (go_at_call 108; refine (cU.out _ _ h3.out).mono ?_; rintro e w5 ⟨rfl, h5⟩; replace h5 := Lib.hid h5))
  all_goals (
    have z := Lib.hid (hfin.out _ h5.out)
    clear h5 h3 hfin cU cM c2 cB k1 k2
    go_wp2
    first | go_ret | skip
    exact z.out)
end
end Go.Proofs.YthmgocjmfhpafaaDoor.M17
