/- The landed step of layer 17: input, output. -/
import Derived.Test.YthmgocjmfhpafaaDoorM17OwnA
import Derived.Deep.RegionLaw
namespace Go.Proofs.YthmgocjmfhpafaaDoor.M17
set_option maxRecDepth 100000
open Go.RowKit Mem Go.Shelf
set_option linter.unusedVariables false
set_option linter.unusedSimpArgs false
theorem info_u8 : (Tryd.prog.info? 5).map (fun i => (i.zero, i.size, i.bytes)) = some (some (.int .u8 0), 1, 1) := by kernel_rfl
/-- A call of a Go function, as one step of a region that draws. -/
theorem step_call {P : Program} {ops : Array Oper} {o : Oper} {a : Act} {w : World} {K : Act → World → Prop} {Q : Exit → Act → World → Prop} {E : Prop} (hgd : o.guard = none) (f : FuncId) (x : Operand) (ts : Array TypeId)
    (ho : o.op = .call { callee := .value (.func f), args := #[x], argTypes := ts }) (hen : ∀ (args : Array Value) (W : World), (callFunc f args).run P W = .ok (.enter f args) W) (u : Value) (hu : a.eval x = u)
    {v : Value} {T : World → Prop} (hc : Calls P f #[u] w fun e w' => e = .returned v ∧ T w') (h : ∀ w', T w' → K (a.put o.dst v) w') :
    if Region.wanted o (yielded ops a.tmps) = true then Oper.wp P o a w K Q else E := by
  rw [if_pos (by simp [Region.wanted, hgd])]
  have he : execOp a.eval o = callFunc f #[u] := by
    unfold execOp
    rw [ho]
    have ef : a.eval (.func f) = .func (.func f) #[] #[] := rfl
    simp [resolve, Deferred.ofValue, invoke, ef, hu]
  unfold Oper.wp
  rw [he, hen]
  rw [Oper.upon_enter]
  refine hc.mono ?_
  rintro e w' ⟨rfl, ht⟩
  exact h w' ht
/-- 'append' of a byte to a row of the call's own, as one step of a region that draws. -/
theorem step_app1 {w : World} {ops : Array Oper} {o : Oper} {a : Act} {K : Act → World → Prop} {Q : Exit → Act → World → Prop} {E : Prop} (hgd : o.guard = none) (s x : Operand)
    (ho : o.op = .call { callee := .builtin .append, args := #[s, x], argTypes := #[43, 43] }) (base : Nat)
    (v : Value) (n : Nat) (xs : List Value) (b : Nat) (u : Value)
    (hs : a.eval s = v) (hown : w.ownsRow base 5 1 v n xs) (hx : a.eval x = .slice (some ⟨b, 0, none⟩) 1 1) (hc : w.cell? ⟨b, 0, none⟩ = some u) (hu : u.oneCell' = true) (hn : n ≤ 1000000000) (hbase : base ≤ w.heap.size)
    (h : ∀ v' w', w'.ownsRow base 5 1 v' (n + 1) (xs ++ [u]) → w.grownBy w' v.ownBlock → K (a.put o.dst v') w') :
    if Region.wanted o (yielded ops a.tmps) = true then Oper.wp Tryd.prog o a w K Q else E := by
  rw [if_pos (by simp [Region.wanted, hgd])]
  obtain ⟨i0, hi0, hz0, hz1, hz2⟩ := info_parts info_u8
  refine wp_append_own w s x 43 ho base 5 i0 _ 1 1 Tryd.underlying43 hi0 hz0 hz1 hz2 rfl (by decide) v n xs hs hown ⟨b, 0, none⟩ 1 1 [u] hx rfl ?_ (fun y hy => by rw [List.mem_singleton.1 hy]; exact hu) (by unfold maxLen; omega) (by omega) hbase fun v' w' h1 h2 _ => h v' w' h1 h2
  intro j y hj
  match j, hj with
  | 0, hj =>
    simp at hj
    subst hj
    rw [add_at]
    exact hc
section
variable {w0 w : World} {base B k M E P ic : Nat} {s : St} {D C O : Value} {IA : Option Addr} {vs : List Value}
theorem next_any (h : At w0 base w B s M E P D C O IA ic (rowV M E D C O IA ic s k)) :
    Calls Tryd.prog 123 #[.pointer (some ⟨B, 0, none⟩)] w fun e w' => e = .returned (.int .u32 ((s.inp.headD 4294967295 : Nat) : Int)) ∧ ∃ IA' ic', At w0 base w' B { s with inp := s.inp.tail } M E P D C O IA' ic' (rowV M E D C O IA' ic' { s with inp := s.inp.tail } k) := by
  cases hi : s.inp with
  | nil =>
    refine (next_none h rfl hi).mono ?_
    rintro e w' ⟨rfl, rfl⟩
    refine ⟨rfl, IA, ic, ?_⟩
    obtain ⟨smem, spc, sds, scs, sdig, sinp, sout⟩ := s
    dsimp only at hi
    subst hi
    exact h
  | cons x l =>
    refine (next_some h rfl hi).mono ?_
    rintro e w' ⟨rfl, IA', ic', h'⟩
    exact ⟨rfl, IA', ic', h'⟩
set_option maxHeartbeats 4000000 in
theorem step_read_full (h : At w0 base w B s M E P D C O IA ic (rowV M E D C O IA ic s k)) (hp : s.pc < 262144) {c : Nat} (hc : s.mem s.pc = c) (hcc : c = 44) (hl : s.ds.length = 256) : Calls Tryd.prog 84 #[.pointer (some ⟨B, 0, none⟩)] w (StQ w0 base B k s) := by
  have hst := step_is hp hc
  obtain ⟨c0, _⟩ := h.f (i := 0) (v := memV M) rfl
  unfold memV at c0
  obtain ⟨c5, f5⟩ := h.f (i := 5) (v := .int .u32 (s.pc : Int)) rfl
  have cm := h.mem.cell s.pc hp
  rw [hc] at cm
  have cA := Lib.hid (fun W => address_own s.pc hp W)
  have hat := Lib.hid (h.fetched hp)
  have cI := Lib.hid (isDigit_own c)
  obtain ⟨Q, hQ⟩ : ∃ Q, StQ w0 base B k s = Q := ⟨_, rfl⟩
  obtain ⟨q, hq⟩ : ∃ q, s.pc = q := ⟨_, rfl⟩
  rw [hq] at cA c5 cm hp hat
  obtain ⟨q1, hq1⟩ : ∃ q1, q + 1 = q1 := ⟨_, rfl⟩
  rw [hq1] at hat
  have g0 : (0 : Int) ≤ (q : Int) := by omega
  have g1 : (q : Int) < 262144 := by omega
  have g2 : (q : Int) + 1 = (q1 : Int) := by omega
  have g3 : (q1 : Int) < 4294967296 := by omega
  obtain ⟨t32, t10, t64, t58, t59, t44, t46, t36⟩ : Ts c false false false false false true false false := by subst hcc; exact ts_of 44
  have hnd : ¬ (48 ≤ c ∧ c ≤ 57) := by omega
  obtain ⟨v, hv⟩ : ∃ v, s.inp.headD 4294967295 = v := ⟨_, rfl⟩
  have hv2 : v < 4294967296 := by
    rw [← hv]
    cases hi : s.inp with
    | nil => decide
    | cons x l => exact h.ok.inp x (by rw [hi]; simp)
  have cN : ∀ W2, At w0 base W2 B { nxt s with dig := false } M E P D C O IA ic (rowV M E D C O IA ic { nxt s with dig := false } k) → Calls Tryd.prog 123 #[.pointer (some ⟨B, 0, none⟩)] W2 fun e w' => e = .returned (.int .u32 (v : Int)) ∧ ∃ IA' ic', At w0 base w' B { nxt s with dig := false, inp := s.inp.tail } M E P D C O IA' ic' (rowV M E D C O IA' ic' { nxt s with dig := false, inp := s.inp.tail } k) := fun W2 h2 => by
    have := next_any h2
    rw [show ({ nxt s with dig := false } : St).inp = s.inp from rfl, hv] at this
    exact this
  replace cN := Lib.hid cN
  have hl2 : 256 ≤ s.ds.length := by omega
  have cU : ∀ W3 IA' ic', At w0 base W3 B { nxt s with dig := false, inp := s.inp.tail } M E P D C O IA' ic' (rowV M E D C O IA' ic' { nxt s with dig := false, inp := s.inp.tail } k) → Calls Tryd.prog 108 #[.pointer (some ⟨B, 1, none⟩), .int .u32 (v : Int)] W3 fun e w' => e = .panicked [tr] ∧ ∃ n, w' = W3.drewN n := fun W3 IA' ic' h3 => pushD_bad h3 rfl rfl hl v
  replace cU := Lib.hid cU
  have hfin : ∀ W2, On w0 base W2 B { nxt s with dig := false, inp := s.inp.tail } k → StQ w0 base B k s (.panicked [tr]) W2 := fun W2 h2 => StQ.trap (s' := { nxt s with dig := false, inp := s.inp.tail }) (by
    rw [hst, hcc]
    show exec _ (nxt s) = _
    obtain ⟨smem, spc, sds, scs, sdig, sinp, sout⟩ := s
    unfold exec nxt
    dsimp only at hl2 ⊢
    simp [hl2]) rfl h2
  rw [decide_eq_false hnd] at cI
  rw [hQ] at hfin ⊢
  replace hfin := Lib.hid hfin
  clear hQ hq hq1 hst hnd h hcc hl hl2 hv hv2
  go_enter Tryd.func84, Tryd.ntmps84
  go_wp2_with fail
  go_quiet ((go_at_call 118; exact Calls.quiet_of_same (cA.out _)))
  go_wp2_with fail
  refine (cI.out _).mono ?_
  rintro e w1 ⟨rfl, rfl⟩
  have h1 := hat.out nq
  obtain ⟨W1, hW1⟩ : ∃ W, (w.drewN nq).setCell ⟨B, 5, none⟩ (.int .u32 (q1 : Int)) = W := ⟨_, rfl⟩
  rw [hW1] at h1 ⊢
  clear hW1 hat cI cA c0 c5 f5 cm g0 g1 g2 g3 hp
  have f6 : W1.frozen? ⟨B, 6, none⟩ = false := (h1.f (i := 6) (v := .bool s.dig) rfl).2
  have c6 : W1.cell? ⟨B, 6, none⟩ = some (.bool s.dig) := (h1.f (i := 6) (v := .bool s.dig) rfl).1
  have h2 := h1.undig
  have c2 := Lib.hid (cN.out _ h2.drew)
  clear h1 h2 cN
  go_wp2_with fail
  refine wp_region_held_drew (S := fun _ => True) (by kernel_rfl) trivial (fun hHeld => ?_)
  refine wpAnyH_take (i := 0) (v := .pointer (some ⟨B, 0, none⟩)) rfl (by kernel_rfl) (by kernel_rfl) (by kernel_rfl) (fun _ _ _ h => h) (Or.inl ⟨by rfl, ?h0⟩) (by assumption) ?r0
  case h0 =>
    intro W hW
    go_simp
  simp only [Act.put, List.setIfInBounds_toArray, List.set_cons_zero, List.set_cons_succ]
  refine wpAnyH_take (i := 1) (v := .pointer (some ⟨B, 0, none⟩)) rfl (by kernel_rfl) (by kernel_rfl) (by kernel_rfl) (fun _ _ _ h => h) (Or.inl ⟨by rfl, ?h1⟩) (by assumption) ?r1
  case h1 =>
    intro W hW
    go_simp
  simp only [Act.put, List.setIfInBounds_toArray, List.set_cons_zero, List.set_cons_succ]
  refine wpAnyH_take (i := 2) (v := .pointer (some ⟨B, 1, none⟩)) rfl (by kernel_rfl) (by kernel_rfl) (by kernel_rfl) (fun _ _ _ h => h) (Or.inl ⟨by rfl, ?h2⟩) (by assumption) ?r2
  case h2 =>
    intro W hW
    go_simp
  simp only [Act.put, List.setIfInBounds_toArray, List.set_cons_zero, List.set_cons_succ]
  refine wpAnyH_take (i := 3) (v := .pointer (some ⟨B, 0, none⟩)) rfl (by kernel_rfl) (by kernel_rfl) (by kernel_rfl) (fun _ _ _ h => h) (Or.inl ⟨by rfl, ?h3⟩) (by assumption) ?r3
  case h3 =>
    intro W hW
    go_simp
  simp only [Act.put, List.setIfInBounds_toArray, List.set_cons_zero, List.set_cons_succ]
  refine wpAnyH_ready (rs := [4]) (by kernel_rfl) (by simp) ?_
  refine AllReadyH.cons rfl (fun K hK => ?_) AllReadyH.nil
  go_simp
  refine (c2.out).mono ?_
  rintro e w2 ⟨rfl, IA', ic', h3⟩
  have c3 := Lib.hid (cU.out _ _ _ h3)
  have z := Lib.hid (fun n => hfin.out _ (h3.drewN n).on)
  refine hK.out _ _ trivial (fun hHeld2 => ?_)
  try simp only [Act.put, List.setIfInBounds_toArray, List.set_cons_zero, List.set_cons_succ]
  refine wpAnyH_ready (rs := [5]) (by kernel_rfl) (by simp) ?_
  refine AllReadyH.cons rfl (fun K hK => ?_) AllReadyH.nil
  go_simp
  refine (c3.out).mono ?_
  rintro e w3 ⟨rfl, n, rfl⟩
  exact ⟨rfl, z.out n⟩
set_option maxHeartbeats 4000000 in
theorem step_read_own (h : At w0 base w B s M E P D C O IA ic (rowV M E D C O IA ic s k)) (hp : s.pc < 262144) {c : Nat} (hc : s.mem s.pc = c) (hcc : c = 44) (hl : s.ds.length < 256) : Calls Tryd.prog 84 #[.pointer (some ⟨B, 0, none⟩)] w (StQ w0 base B k s) := by
  have hst := step_is hp hc
  obtain ⟨c0, _⟩ := h.f (i := 0) (v := memV M) rfl
  unfold memV at c0
  obtain ⟨c5, f5⟩ := h.f (i := 5) (v := .int .u32 (s.pc : Int)) rfl
  have cm := h.mem.cell s.pc hp
  rw [hc] at cm
  have cA := Lib.hid (fun W => address_own s.pc hp W)
  have hat := Lib.hid (h.fetched hp)
  have cI := Lib.hid (isDigit_own c)
  obtain ⟨Q, hQ⟩ : ∃ Q, StQ w0 base B k s = Q := ⟨_, rfl⟩
  obtain ⟨q, hq⟩ : ∃ q, s.pc = q := ⟨_, rfl⟩
  rw [hq] at cA c5 cm hp hat
  obtain ⟨q1, hq1⟩ : ∃ q1, q + 1 = q1 := ⟨_, rfl⟩
  rw [hq1] at hat
  have g0 : (0 : Int) ≤ (q : Int) := by omega
  have g1 : (q : Int) < 262144 := by omega
  have g2 : (q : Int) + 1 = (q1 : Int) := by omega
  have g3 : (q1 : Int) < 4294967296 := by omega
  obtain ⟨t32, t10, t64, t58, t59, t44, t46, t36⟩ : Ts c false false false false false true false false := by subst hcc; exact ts_of 44
  have hnd : ¬ (48 ≤ c ∧ c ≤ 57) := by omega
  obtain ⟨v, hv⟩ : ∃ v, s.inp.headD 4294967295 = v := ⟨_, rfl⟩
  have hv2 : v < 4294967296 := by
    rw [← hv]
    cases hi : s.inp with
    | nil => decide
    | cons x l => exact h.ok.inp x (by rw [hi]; simp)
  have cN : ∀ W2, At w0 base W2 B { nxt s with dig := false } M E P D C O IA ic (rowV M E D C O IA ic { nxt s with dig := false } k) → Calls Tryd.prog 123 #[.pointer (some ⟨B, 0, none⟩)] W2 fun e w' => e = .returned (.int .u32 (v : Int)) ∧ ∃ IA' ic', At w0 base w' B { nxt s with dig := false, inp := s.inp.tail } M E P D C O IA' ic' (rowV M E D C O IA' ic' { nxt s with dig := false, inp := s.inp.tail } k) := fun W2 h2 => by
    have := next_any h2
    rw [show ({ nxt s with dig := false } : St).inp = s.inp from rfl, hv] at this
    exact this
  replace cN := Lib.hid cN
  have hl2 : ¬ 256 ≤ s.ds.length := by omega
  have cU : ∀ W3 IA' ic', At w0 base W3 B { nxt s with dig := false, inp := s.inp.tail } M E P D C O IA' ic' (rowV M E D C O IA' ic' { nxt s with dig := false, inp := s.inp.tail } k) → Calls Tryd.prog 108 #[.pointer (some ⟨B, 1, none⟩), .int .u32 (v : Int)] W3 fun e w' => e = .returned (.tuple #[]) ∧ On w0 base w' B { nxt s with dig := false, inp := s.inp.tail, ds := v :: s.ds } k := fun W3 IA' ic' h3 => push_on h3 hl hv2
  replace cU := Lib.hid cU
  have hfin : ∀ W2, On w0 base W2 B { nxt s with dig := false, inp := s.inp.tail, ds := v :: s.ds } k → StQ w0 base B k s (.returned (.bool false)) W2 := fun W2 h2 => StQ.go (s' := { nxt s with dig := false, inp := s.inp.tail, ds := v :: s.ds }) (by
    rw [hst, hcc]
    show exec _ (nxt s) = _
    obtain ⟨smem, spc, sds, scs, sdig, sinp, sout⟩ := s
    unfold exec nxt
    dsimp only at hl2 hv ⊢
    rw [← hv]
    simp [hl2]) h2
  rw [decide_eq_false hnd] at cI
  rw [hQ] at hfin ⊢
  replace hfin := Lib.hid hfin
  clear hQ hq hq1 hst hnd h hcc hl hl2 hv hv2
  go_enter Tryd.func84, Tryd.ntmps84
  go_wp2_with fail
  go_quiet ((go_at_call 118; exact Calls.quiet_of_same (cA.out _)))
  go_wp2_with fail
  refine (cI.out _).mono ?_
  rintro e w1 ⟨rfl, rfl⟩
  have h1 := hat.out nq
  obtain ⟨W1, hW1⟩ : ∃ W, (w.drewN nq).setCell ⟨B, 5, none⟩ (.int .u32 (q1 : Int)) = W := ⟨_, rfl⟩
  rw [hW1] at h1 ⊢
  clear hW1 hat cI cA c0 c5 f5 cm g0 g1 g2 g3 hp
  have f6 : W1.frozen? ⟨B, 6, none⟩ = false := (h1.f (i := 6) (v := .bool s.dig) rfl).2
  have c6 : W1.cell? ⟨B, 6, none⟩ = some (.bool s.dig) := (h1.f (i := 6) (v := .bool s.dig) rfl).1
  have h2 := h1.undig
  have c2 := Lib.hid (cN.out _ h2.drew)
  clear h1 h2 cN
  go_wp2_with fail
  go_region_with (first
    | (go_at_call 123; refine (c2.out).mono ?_; rintro e w2 ⟨rfl, IA', ic', h3⟩; replace h3 := Lib.hid h3)
    | (go_at_call 108; refine (cU.out _ _ _ h3.out).mono ?_; rintro e w5 ⟨rfl, h5⟩; replace h5 := Lib.hid h5))
  all_goals (
    have z := Lib.hid (hfin.out _ h5.out)
    clear h5 h3 hfin cU c2
    go_wp2
    first | go_ret | skip
    exact z.out)
end
end Go.Proofs.YthmgocjmfhpafaaDoor.M17
