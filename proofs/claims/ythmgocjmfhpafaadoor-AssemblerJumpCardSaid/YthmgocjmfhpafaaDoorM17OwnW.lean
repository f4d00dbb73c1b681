/- The landed step of layer 17: output. -/
import Derived.Test.YthmgocjmfhpafaaDoorM17OwnB
namespace Go.Proofs.YthmgocjmfhpafaaDoor.M17
set_option maxRecDepth 100000
open Go.RowKit Mem Go.Shelf
set_option linter.unusedVariables false
set_option linter.unusedSimpArgs false
section
variable {w0 w : World} {base B k M E P ic : Nat} {s : St} {D C O : Value} {IA : Option Addr} {vs : List Value}
set_option maxHeartbeats 4000000 in
theorem step_write_none (h : At w0 base w B s M E P D C O IA ic (rowV M E D C O IA ic s k)) (hp : s.pc < 262144) {c : Nat} (hc : s.mem s.pc = c) (hcc : c = 46) (hds : s.ds = []) : Calls Tryd.prog 84 #[.pointer (some ⟨B, 0, none⟩)] w (StQ w0 base B k s) := by
  have hst := step_is hp hc
  obtain ⟨c0, _⟩ := h.f (i := 0) (v := memV M) rfl
  unfold memV at c0
  obtain ⟨c5, f5⟩ := h.f (i := 5) (v := .int .u32 (s.pc : Int)) rfl
  have cm := h.mem.cell s.pc hp
  rw [hc] at cm
  have cA := Lib.hid (fun W => address_own s.pc hp W)
  have hat := Lib.hid (h.fetched hp)
  have cI := Lib.hid (isDigit_own c)
  obtain ⟨Q, hQ⟩ : ∃ Q, StQ w0 base B k s = Q := ⟨_, rfl⟩
  obtain ⟨q, hq⟩ : ∃ q, s.pc = q := ⟨_, rfl⟩
  rw [hq] at cA c5 cm hp hat
  obtain ⟨q1, hq1⟩ : ∃ q1, q + 1 = q1 := ⟨_, rfl⟩
  rw [hq1] at hat
  have g0 : (0 : Int) ≤ (q : Int) := by omega
  have g1 : (q : Int) < 262144 := by omega
  have g2 : (q : Int) + 1 = (q1 : Int) := by omega
  have g3 : (q1 : Int) < 4294967296 := by omega
  obtain ⟨t32, t10, t64, t58, t59, t44, t46, t36⟩ : Ts c false false false false false false true false := by subst hcc; exact ts_of 46
  have hnd : ¬ (48 ≤ c ∧ c ≤ 57) := by omega
  have cP : ∀ W2, At w0 base W2 B { nxt s with dig := false } M E P D C O IA ic (rowV M E D C O IA ic { nxt s with dig := false } k) → Calls Tryd.prog 121 #[.pointer (some ⟨B, 1, none⟩)] W2 fun e w' => e = .panicked [tr] ∧ w' = W2 := fun W2 h2 => popD_bad h2 rfl hds
  replace cP := Lib.hid cP
  have hfin : ∀ W2, On w0 base W2 B { nxt s with dig := false } k → StQ w0 base B k s (.panicked [tr]) W2 := fun W2 h2 => StQ.trap (s' := { nxt s with dig := false }) (by
    rw [hst, hcc]
    show exec _ (nxt s) = _
    obtain ⟨smem, spc, sds, scs, sdig, sinp, sout⟩ := s
    unfold exec nxt
    dsimp only at hds ⊢
    simp [hds]) rfl h2
  rw [decide_eq_false hnd] at cI
  rw [hQ] at hfin ⊢
  replace hfin := Lib.hid hfin
  clear hQ hq hq1 hst hnd h hcc hds
  go_enter Tryd.func84, Tryd.ntmps84
  go_wp2_with fail
  go_quiet ((go_at_call 118; exact Calls.quiet_of_same (cA.out _)))
  go_wp2_with fail
  refine (cI.out _).mono ?_
  rintro e w1 ⟨rfl, rfl⟩
  have h1 := hat.out nq
  obtain ⟨W1, hW1⟩ : ∃ W, (w.drewN nq).setCell ⟨B, 5, none⟩ (.int .u32 (q1 : Int)) = W := ⟨_, rfl⟩
  rw [hW1] at h1 ⊢
  clear hW1 hat cI cA c0 c5 f5 cm g0 g1 g2 g3 hp
  have f6 : W1.frozen? ⟨B, 6, none⟩ = false := (h1.f (i := 6) (v := .bool s.dig) rfl).2
  have c6 : W1.cell? ⟨B, 6, none⟩ = some (.bool s.dig) := (h1.f (i := 6) (v := .bool s.dig) rfl).1
  have h2 := h1.undig
  obtain ⟨pO, oc, hO, _⟩ := own_slice h1.out
  have c9 : W1.cell? ⟨B, 9, none⟩ = some O := (h1.f (i := 9) (v := O) rfl).1
  rw [hO] at c9
  obtain ⟨on, hon⟩ : ∃ on, (nxt s).out.length = on := ⟨_, rfl⟩
  rw [hon] at c9 hO
  have c2 := Lib.hid (cP.out _ h2.drew)
  have z := Lib.hid (hfin.out _ h2.drew.on)
  clear h1 h2 hfin cP
  go_wp2_with fail
  refine wp_region_held_drew (S := fun W => W = (W1.setCell ⟨B, 6, none⟩ (.bool false)).drew) (by kernel_rfl) rfl (fun hHeld => ?_)
  refine wpAnyH_take (i := 0) (v := .pointer (some ⟨B, 0, none⟩)) rfl (by kernel_rfl) (by kernel_rfl) (by kernel_rfl) (fun _ _ _ h => h) (Or.inl ⟨by rfl, ?h0⟩) (by assumption) ?r0
  case h0 =>
    intro W hW
    subst hW
    go_simp
  simp only [Act.put, List.setIfInBounds_toArray, List.set_cons_zero, List.set_cons_succ]
  refine wpAnyH_take (i := 1) (v := .pointer (some ⟨B, 0, none⟩)) rfl (by kernel_rfl) (by kernel_rfl) (by kernel_rfl) (fun _ _ _ h => h) (Or.inl ⟨by rfl, ?h1⟩) (by assumption) ?r1
  case h1 =>
    intro W hW
    subst hW
    go_simp
  simp only [Act.put, List.setIfInBounds_toArray, List.set_cons_zero, List.set_cons_succ]
  refine wpAnyH_take (i := 2) (v := .pointer (some ⟨B, 0, none⟩)) rfl (by kernel_rfl) (by kernel_rfl) (by kernel_rfl) (fun _ _ _ h => h) (Or.inl ⟨by rfl, ?h2⟩) (by assumption) ?r2
  case h2 =>
    intro W hW
    subst hW
    go_simp
  simp only [Act.put, List.setIfInBounds_toArray, List.set_cons_zero, List.set_cons_succ]
  refine wpAnyH_take (i := 3) (v := .pointer (some ⟨B, 9, none⟩)) rfl (by kernel_rfl) (by kernel_rfl) (by kernel_rfl) (fun _ _ _ h => h) (Or.inl ⟨by rfl, ?h3⟩) (by assumption) ?r3
  case h3 =>
    intro W hW
    subst hW
    go_simp
  simp only [Act.put, List.setIfInBounds_toArray, List.set_cons_zero, List.set_cons_succ]
  refine wpAnyH_take (i := 4) (v := .slice pO on oc) rfl (by kernel_rfl) (by kernel_rfl) (by kernel_rfl) (fun _ _ _ h => h) (Or.inl ⟨by rfl, ?h4⟩) (by assumption) ?r4
  case h4 =>
    intro W hW
    subst hW
    go_simp
  simp only [Act.put, List.setIfInBounds_toArray, List.set_cons_zero, List.set_cons_succ]
  refine wpAnyH_take (i := 5) (v := .pointer (some ⟨B, 0, none⟩)) rfl (by kernel_rfl) (by kernel_rfl) (by kernel_rfl) (fun _ _ _ h => h) (Or.inl ⟨by rfl, ?h5⟩) (by assumption) ?r5
  case h5 =>
    intro W hW
    subst hW
    go_simp
  simp only [Act.put, List.setIfInBounds_toArray, List.set_cons_zero, List.set_cons_succ]
  refine wpAnyH_take (i := 6) (v := .pointer (some ⟨B, 0, none⟩)) rfl (by kernel_rfl) (by kernel_rfl) (by kernel_rfl) (fun _ _ _ h => h) (Or.inl ⟨by rfl, ?h6⟩) (by assumption) ?r6
  case h6 =>
    intro W hW
    subst hW
    go_simp
  simp only [Act.put, List.setIfInBounds_toArray, List.set_cons_zero, List.set_cons_succ]
  refine wpAnyH_take (i := 7) (v := .pointer (some ⟨B, 1, none⟩)) rfl (by kernel_rfl) (by kernel_rfl) (by kernel_rfl) (fun _ _ _ h => h) (Or.inl ⟨by rfl, ?h7⟩) (by assumption) ?r7
  case h7 =>
    intro W hW
    subst hW
    go_simp
  simp only [Act.put, List.setIfInBounds_toArray, List.set_cons_zero, List.set_cons_succ]
  refine wpAnyH_ready (rs := [8]) (by kernel_rfl) (by simp) ?_
  refine AllReadyH.cons rfl (fun K hK => ?_) AllReadyH.nil
  go_simp
  refine (c2.out).mono ?_
  rintro e w2 ⟨rfl, rfl⟩
  exact ⟨rfl, z.out⟩
set_option maxHeartbeats 4000000 in
theorem step_write_own (h : At w0 base w B s M E P D C O IA ic (rowV M E D C O IA ic s k)) (hp : s.pc < 262144) {c : Nat} (hc : s.mem s.pc = c) (hcc : c = 46) {a : Nat} {r : List Nat} (hds : s.ds = a :: r) (hol : s.out.length ≤ 1000000000) : Calls Tryd.prog 84 #[.pointer (some ⟨B, 0, none⟩)] w (StQ w0 base B k s) := by
  have hst := step_is hp hc
  obtain ⟨c0, _⟩ := h.f (i := 0) (v := memV M) rfl
  unfold memV at c0
  obtain ⟨c5, f5⟩ := h.f (i := 5) (v := .int .u32 (s.pc : Int)) rfl
  have cm := h.mem.cell s.pc hp
  rw [hc] at cm
  have cA := Lib.hid (fun W => address_own s.pc hp W)
  have hat := Lib.hid (h.fetched hp)
  have cI := Lib.hid (isDigit_own c)
  obtain ⟨Q, hQ⟩ : ∃ Q, StQ w0 base B k s = Q := ⟨_, rfl⟩
  obtain ⟨q, hq⟩ : ∃ q, s.pc = q := ⟨_, rfl⟩
  rw [hq] at cA c5 cm hp hat
  obtain ⟨q1, hq1⟩ : ∃ q1, q + 1 = q1 := ⟨_, rfl⟩
  rw [hq1] at hat
  have g0 : (0 : Int) ≤ (q : Int) := by omega
  have g1 : (q : Int) < 262144 := by omega
  have g2 : (q : Int) + 1 = (q1 : Int) := by omega
  have g3 : (q1 : Int) < 4294967296 := by omega
  obtain ⟨t32, t10, t64, t58, t59, t44, t46, t36⟩ : Ts c false false false false false false true false := by subst hcc; exact ts_of 46
  have hnd : ¬ (48 ≤ c ∧ c ≤ 57) := by omega
  have cP : ∀ W2, At w0 base W2 B { nxt s with dig := false } M E P D C O IA ic (rowV M E D C O IA ic { nxt s with dig := false } k) → Calls Tryd.prog 121 #[.pointer (some ⟨B, 1, none⟩)] W2 fun e w' => e = .returned (.int .u32 (a : Int)) ∧ ∃ D', At w0 base w' B { nxt s with dig := false, ds := r } M E P D' C O IA ic (rowV M E D' C O IA ic { nxt s with dig := false, ds := r } k) := fun W2 h2 => popD_own h2 rfl hds
  replace cP := Lib.hid cP
  obtain ⟨y, hy⟩ : ∃ y : UInt8, UInt8.ofNat a = y := ⟨_, rfl⟩
  have ey : (a : Int) % 256 = (y.toNat : Int) := by rw [← hy]; simp
  have ey2 : IntKind.u8.wrap (a : Int) = (y.toNat : Int) := by rw [IntKind.wrap_u8]; exact ey
  have cF : ∀ W3 D', At w0 base W3 B { nxt s with dig := false, ds := r } M E P D' C O IA ic (rowV M E D' C O IA ic { nxt s with dig := false, ds := r } k) → W3.cell? ⟨B, 9, none⟩ = some O ∧ W3.ownsRow base 5 1 O s.out.length (bys s.out) ∧ base ≤ W3.heap.size ∧ (W3.alloc (.cells #[.int .u8 (y.toNat : Int)] 5)).cell? ⟨B, 9, none⟩ = some O := fun W3 D' h3 => ⟨(h3.f (i := 9) (v := O) rfl).1, h3.out, h3.bw, ((h3.alloc (.cells #[.int .u8 (y.toNat : Int)] 5)).f (i := 9) (v := O) rfl).1⟩
  have cG : ∀ W3 D' W4 O', At w0 base W3 B { nxt s with dig := false, ds := r } M E P D' C O IA ic (rowV M E D' C O IA ic { nxt s with dig := false, ds := r } k) → W4.ownsRow base 5 1 O' (s.out.length + 1) (bys s.out ++ [.int .u8 (y.toNat : Int)]) → (W3.alloc (.cells #[.int .u8 (y.toNat : Int)] 5)).grownBy W4 O.ownBlock →
      W4.frozen? ⟨B, 9, none⟩ = false ∧ (∃ u, W4.cell? ⟨B, 9, none⟩ = some u) ∧ On w0 base (W4.setCell ⟨B, 9, none⟩ O') B { nxt s with dig := false, ds := r, out := s.out ++ [y] } k := fun W3 D' W4 O' h3 hr hg => by
    have h4 := (h3.alloc (.cells #[.int .u8 (y.toNat : Int)] 5)).swapO (l := s.out ++ [y]) hg (by rw [List.length_append, bys_snoc]; exact hr)
    obtain ⟨e1, e2⟩ := h4.f (i := 9) (v := O) rfl
    exact ⟨e2, ⟨_, e1⟩, At.on (h4.field 9 O')⟩
  replace cF := Lib.hid cF
  replace cG := Lib.hid cG
  have hfin : ∀ W2, On w0 base W2 B { nxt s with dig := false, ds := r, out := s.out ++ [y] } k → StQ w0 base B k s (.returned (.bool false)) W2 := fun W2 h2 => StQ.go (s' := { nxt s with dig := false, ds := r, out := s.out ++ [y] }) (by
    rw [hst, hcc]
    show exec _ (nxt s) = _
    obtain ⟨smem, spc, sds, scs, sdig, sinp, sout⟩ := s
    unfold exec nxt
    dsimp only at hds hy ⊢
    simp [hds, hy]) h2
  rw [decide_eq_false hnd] at cI
  rw [hQ] at hfin ⊢
  replace hfin := Lib.hid hfin
  clear hQ hq hq1 hst hnd h hcc hds hy
  go_enter Tryd.func84, Tryd.ntmps84
  go_wp2_with fail
  go_quiet ((go_at_call 118; exact Calls.quiet_of_same (cA.out _)))
  go_wp2_with fail
  refine (cI.out _).mono ?_
  rintro e w1 ⟨rfl, rfl⟩
  have h1 := hat.out nq
  obtain ⟨W1, hW1⟩ : ∃ W, (w.drewN nq).setCell ⟨B, 5, none⟩ (.int .u32 (q1 : Int)) = W := ⟨_, rfl⟩
  rw [hW1] at h1 ⊢
  clear hW1 hat cI cA c0 c5 f5 cm g0 g1 g2 g3 hp
  have f6 : W1.frozen? ⟨B, 6, none⟩ = false := (h1.f (i := 6) (v := .bool s.dig) rfl).2
  have c6 : W1.cell? ⟨B, 6, none⟩ = some (.bool s.dig) := (h1.f (i := 6) (v := .bool s.dig) rfl).1
  have h2 := h1.undig
  obtain ⟨pO, oc, hO, _⟩ := own_slice h1.out
  have c9 : W1.cell? ⟨B, 9, none⟩ = some O := (h1.f (i := 9) (v := O) rfl).1
  rw [hO] at c9
  obtain ⟨on, hon⟩ : ∃ on, (nxt s).out.length = on := ⟨_, rfl⟩
  rw [hon] at c9 hO
  have c2 := Lib.hid (cP.out _ h2.drew)
  clear h1 h2 cP hon
  subst hO
  obtain ⟨xs, hxs⟩ : ∃ xs, bys s.out = xs := ⟨_, rfl⟩
  rw [hxs] at cF cG
  clear hxs
  have hen := enters_of Tryd.func121 (by kernel_rfl) rfl
  go_wp2_with fail
  go_region_law (first
    | (refine step_call rfl 121 (.tmp 89) #[89] rfl hen (.pointer (some ⟨B, 1, none⟩)) rfl (c2.out) ?_; rintro w3 ⟨D', h3⟩; replace h3 := Lib.hid h3; obtain ⟨k1, k2, k3, k4⟩ := cF.out _ _ h3.out; replace k2 := Lib.hid k2)
    | (refine step_app1 (by rfl) _ _ (by rfl) base (.slice pO on oc) s.out.length xs _ (.int .u8 (y.toNat : Int)) (by rfl) (k2.out.alloc _) (by rfl) (by exact one_new w3 _ _ 0 _ rfl) rfl hol (by simp; omega) ?_; intro O' w4 hr hg; obtain ⟨l1, ⟨u, l2⟩, l3⟩ := cG.out _ _ _ _ h3.out hr hg; replace l3 := Lib.hid l3; obtain ⟨pA', cap', rfl, _⟩ := own_slice hr; clear hr hg))
  all_goals (
    have z := Lib.hid (hfin.out _ l3.out)
    clear h3 hfin cF cG c2
    go_wp2
    first | go_ret | skip
    exact z.out)
end
end Go.Proofs.YthmgocjmfhpafaaDoor.M17
