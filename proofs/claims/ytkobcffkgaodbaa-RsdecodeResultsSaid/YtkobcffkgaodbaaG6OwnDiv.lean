/- The contract of the landed DivMod. -/
import Derived.Test.YtkobcffkgaodbaaG6OwnEv
import Derived.Test.YtkobcffkgaodbaaG5OwnDiv
import Derived.Test.YtkobcffkgaodbaaG6OwnDs
namespace Go.Proofs.Ytkobcffkgaodbaa.G6
open Go.Proofs.Ytkobcffkgaodbaa.G5
open Go.RowKit Mem
set_option linter.unusedVariables false
set_option linter.unusedSimpArgs false

set_option maxRecDepth 100000 in
set_option maxHeartbeats 2000000 in
theorem div0_own {A B : Option Addr} {c d : Nat} {p q : List R} {w : World} (h' : IsSl w B d q) (hq : q.length ≤ 100) (h0 : trim q = []) :
    Calls Try.prog 67 #[.slice A p.length c, .slice B q.length d] w (Div0 w) := by
  have c1 := trim_own h' (by omega)
  rw [h0] at c1
  replace c1 := Lib.hid c1
  clear h' h0
  go_enter Try.func67, Try.ntmps67
  go_wp2_with fail
  refine c1.out.mono ?_
  rintro e w1 ⟨A2, d2, rfl, hs2, hb2⟩
  go_wp2
  go_ret3
  exact ⟨none, 0, none, 0, rfl, IsSl.no _, IsSl.no _, hb2⟩

set_option maxRecDepth 100000 in
set_option maxHeartbeats 8000000 in
theorem div1_own {A B : Option Addr} {c d : Nat} {p q : List R} {w : World} (h : IsSl w A c p) (h' : IsSl w B d q) (hp : p.length ≤ 100) (hq : q.length ≤ 100) (h0 : trim q ≠ []) :
    Calls Try.prog 67 #[.slice A p.length c, .slice B q.length d] w (Div1 p q w) := by
  have c1 := trim_own h' (by omega)
  have hQl := trim_len q
  have hpl := trim_len p
  obtain ⟨I, hI⟩ : ∃ I, (trim q).length = I + 1 := ⟨(trim q).length - 1, by have := List.length_pos_iff.2 h0; omega⟩
  have hQt := trim_trim q
  obtain ⟨Q, hQ⟩ : ∃ Q, trim q = Q := ⟨_, rfl⟩
  rw [hQ] at c1 hQl hI hQt
  have hY0 : Q.getD I 0 ≠ 0 := by
    obtain ⟨q0, Y, e⟩ := snoc_of (p := Q) (fun e => by rw [e] at hI; simp at hI)
    have hl := hI
    rw [e] at hQt hl ⊢
    rw [show I = q0.length by simp at hl; omega, getD_last]
    exact hQt.last
  obtain ⟨Y, hY⟩ : ∃ Y, Q.getD I 0 = Y := ⟨_, rfl⟩
  rw [hY] at hY0
  obtain ⟨C, hC⟩ : ∃ C, iv Y = C := ⟨_, rfl⟩
  obtain ⟨nQ, hnQ⟩ : ∃ nQ, nQ = I + 1 := ⟨_, rfl⟩
  obtain ⟨n0, hn0⟩ : ∃ n0, (trim p).length = n0 := ⟨_, rfl⟩
  rw [hn0] at hpl
  have hn0h := Lib.hid hn0
  have hQh := Lib.hid hQ
  have hIh := Lib.hid hI
  have hYh := Lib.hid hY
  have hY0h := Lib.hid hY0
  have hCh := Lib.hid hC
  have hph := Lib.hid h
  have hplh := Lib.hid hpl
  have hnQ100 : nQ ≤ 100 := by omega
  have hn100 : n0 ≤ 100 := by omega
  have hI100 : I < 100 := by omega
  have cI := fun W => inv_own Y W
  rw [hC, show (Y == 0#8) = false from by rw [beq_eq_false_iff_ne]; exact hY0] at cI
  replace cI := Lib.hid cI
  replace c1 := Lib.hid c1
  have hnQh := Lib.hid hnQ
  clear h h' h0 hQ hI hQl hpl hn0 hQt hY hY0 hC hnQ
  go_enter Try.func67, Try.ntmps67
  go_wp2_with fail
  refine c1.out.mono ?_
  rintro e w1 ⟨A2, d2, rfl, hs2, hb2⟩
  have hQn := Lib.hid (show Q.length = nQ by rw [hIh.out, hnQh.out])
  rw [hQn.out]
  have hne : ((nQ : Int) == 0) = false := by rw [beq_eq_false_iff_ne]; have := hnQh.out; omega
  obtain ⟨b1, o1, rfl, hbl1, hc1⟩ := hs2.read I (by have := hIh.out; omega)
  rw [hYh.out] at hc1
  have e1 : (nQ : Int) - 1 = (I : Int) := by have := hnQh.out; omega
  have i0 : (0 : Int) ≤ (I : Int) := by omega
  have i1 : (I : Int) < (nQ : Int) := by omega
  have cI1 := Lib.hid (cI.out w1)
  have hs2h := Lib.hid hs2
  clear hs2 cI c1
  go_wp2_with fail
  refine cI1.out.mono ?_
  rintro e w2 ⟨rfl, hb3⟩
  have cT := trim_row (hph.out.below (chain hb2 hb3)) (by omega)
  rw [hn0h.out] at cT
  replace cT := Lib.hid cT
  have hs3h := Lib.hid (hs2h.out.below hb3)
  have hbw2 := Lib.hid (chain hb2 hb3)
  clear hb2 hb3 hs2h cI1 hne hc1 hbl1 i0 i1
  go_wp2_with fail
  refine cT.out.mono ?_
  rintro e w3 ⟨rfl, hatR, hglR, hb4⟩
  clear cT
  obtain ⟨GR, hGR⟩ : ∃ GR, w2.heap.size = GR := ⟨_, rfl⟩
  rw [hGR] at hatR hglR ⊢
  have hGRh := Lib.hid hGR
  clear hGR
  by_cases hle : nQ ≤ n0
  · obtain ⟨D, hD⟩ : ∃ D, n0 = D + nQ := ⟨n0 - nQ, by omega⟩
    obtain ⟨nq, hnq⟩ : ∃ nq, nq = D + 1 := ⟨_, rfl⟩
    have e2 : (n0 : Int) - (nQ : Int) = (D : Int) := by omega
    have e3 : (D : Int) + 1 = (nq : Int) := by omega
    have p0 : (0 : Int) < (nq : Int) := by omega
    have hD100 : D ≤ 100 := by omega
    have hnq100 : nq ≤ 101 := by omega
    have hmk := make_zeros w3 nq (by omega)
    have hatQ := zeros_at w3 nq (by omega)
    have ob := mb w3 (.cells (madeCells #[.int .u8 0] nq) 5)
    have hnI := Lib.hid (show nq + I = n0 by have := hnQh.out; omega)
    have hst := Lib.hid (DS.start (p := p) (q := q) (Q := Q) (nq := nq) hn0h.out (by omega))
    replace hD := Lib.hid hD
    replace hnq := Lib.hid hnq
    go_wp2
    clear hmk
    obtain ⟨GQ, hGQ⟩ : ∃ GQ, w3.heap.size = GQ := ⟨_, rfl⟩
    have hg0 := Lib.hid (show GR < (w3.alloc (.cells (madeCells #[.int .u8 0] nq) 5)).heap.size ∧ GQ < (w3.alloc (.cells (madeCells #[.int .u8 0] nq) 5)).heap.size by rw [← hGQ]; simp; omega)
    have hne := Lib.hid (show GR ≠ GQ ∧ w2.heap.size ≤ GR ∧ w2.heap.size ≤ GQ by have := hGRh.out; omega)
    have hatR := Lib.hid (hatR.below ob hglR)
    rw [hGQ] at hatQ ⊢
    replace hatQ := Lib.hid hatQ
    have hb5 := chain hb4 ob
    clear hGQ hglR hb4 ob e2 e3
    go_loopw [43] (fun a wr => ∃ (t : Nat) (r d : List R), t ≤ nq ∧ a = .int .i64 t ∧ Hid (DS p Q n0 nq t r d) ∧ Hid (VAt wr GR (rs r)) ∧ Hid (VAt wr GQ (rs d)) ∧ Hid (GR < wr.heap.size ∧ GQ < wr.heap.size) ∧ Below w2.heap.size w2 wr) (fun a _ => nq - (intOf a).toNat)
    case atStart => exact ⟨0, _, _, Nat.zero_le _, rfl, hst, hatR, hatQ, hg0, hb5⟩
    case round =>
      clear hst hatR hatQ hg0 hb5
      obtain ⟨t, r, dd, ht, rfl, hds, hatR, hatQ, hg, hb⟩ := hrel
      by_cases hlt : t < nq
      · obtain ⟨M, hM⟩ : ∃ M, nq = M + 1 := ⟨nq - 1, by omega⟩
        obtain ⟨a, ha⟩ : ∃ a, M = a + t := ⟨M - t, by omega⟩
        obtain ⟨u, hu⟩ : ∃ u, u = a + nQ := ⟨_, rfl⟩
        obtain ⟨top, htop⟩ : ∃ top, top = a + I := ⟨_, rfl⟩
        have hnI' := hnI.out
        have hnQ' := hnQh.out
        have t1 : (t : Int) < (nq : Int) := by omega
        have e1 : (nq : Int) - 1 = (M : Int) := by omega
        have e2 : (M : Int) - (t : Int) = (a : Int) := by omega
        have e3 : (a : Int) + (nQ : Int) = (u : Int) := by omega
        have e4 : (u : Int) - 1 = (top : Int) := by omega
        have b0 : (0 : Int) ≤ (top : Int) := by omega
        have b1 : (top : Int) < (n0 : Int) := by omega
        have b2 : (0 : Int) ≤ (a : Int) := by omega
        have b3 : (a : Int) < (nq : Int) := by omega
        have hM100 : M ≤ 101 := by omega
        have ha100 : a ≤ 101 := by omega
        have hu100 : u ≤ 202 := by omega
        obtain ⟨hn1, hf1⟩ := VAt.readR hatR.out (k := top) (by rw [hds.out.lr]; omega)
        obtain ⟨hn2, hf2⟩ := VAt.readR hatQ.out (k := a) (by rw [hds.out.ld]; omega)
        obtain ⟨X, hX⟩ : ∃ X, r.getD top 0 = X := ⟨_, rfl⟩
        rw [hX] at hn1
        obtain ⟨V0, hV0⟩ : ∃ V0, dd.getD a 0 = V0 := ⟨_, rfl⟩
        rw [hV0] at hn2
        have cM := mul_own X C wr
        obtain ⟨F, hF⟩ : ∃ F, tms X C = F := ⟨_, rfl⟩
        rw [hF] at cM
        replace cM := Lib.hid cM
        have hstep := Lib.hid (DS.step hds.out hIh.out hnI' (by omega) htop hX hYh.out hY0h.out hCh.out hF)
        have hra := Lib.hid (show a + Q.length ≤ n0 by rw [hIh.out]; omega)
        have hlr := Lib.hid hds.out.lr
        have hat2 := Lib.hid (show VAt (wr.setCell ⟨GQ, a, none⟩ (bv F)) GQ (rs (dd.set a F)) from VAt.setR hatQ.out (k := a) (by rw [hds.out.ld]; omega) F)
        have hatR2 := Lib.hid (show VAt (wr.setCell ⟨GQ, a, none⟩ (bv F)) GR (rs (rj r Q a F 0)) by
          rw [rj_zero hlr.out hra.out]
          exact VAt.far hatR.out (fun e => hne.out.1 e.symm) _)
        have hg2 := Lib.hid (show GR < (wr.setCell ⟨GQ, a, none⟩ (bv F)).heap.size ∧ GQ < (wr.setCell ⟨GQ, a, none⟩ (bv F)).heap.size by simpa using hg.out)
        have hbq := hb.setCell (p := ⟨GQ, a, none⟩) hne.out.2.2 (bv F)
        have haI := Lib.hid (show a + t + 1 = nq by omega)
        clear hM ha hu htop hX hV0 hF hnI' hnQ' hatR hatQ hg hds
        go_wp2_with fail
        refine cM.out.mono ?_
        rintro e w9 ⟨rfl, rfl⟩
        go_wp2
        clear e1 e2 e3 e4 b0 b1 b3 hn1 hf1 hn2 hf2 hb cM
        go_loopw [67] (fun b wq => ∃ j : Nat, j ≤ nQ ∧ b = .int .i64 j ∧ Hid (VAt wq GR (rs (rj r Q a F j))) ∧ Hid (VAt wq GQ (rs (dd.set a F))) ∧ Hid (GR < wq.heap.size ∧ GQ < wq.heap.size) ∧ Below w2.heap.size w2 wq) (fun b _ => nQ - (intOf b).toNat)
        case atStart => exact ⟨0, Nat.zero_le _, rfl, hatR2, hat2, hg2, hbq⟩
        case round =>
          clear hatR2 hat2 hg2 hbq
          obtain ⟨j, hj, rfl, hatR, hatQ, hg, hb⟩ := hrel
          by_cases hlj : j < nQ
          · obtain ⟨i, hi⟩ : ∃ i, i = a + j := ⟨_, rfl⟩
            have hjl : j < Q.length := by rw [hQn.out]; exact hlj
            obtain ⟨s1, s2⟩ := rj_step (F := F) hlr.out hra.out hjl hi
            have hrl := rj_len (j := j) (F := F) hlr.out hra.out
            have hin : i < n0 := by have := hra.out; omega
            obtain ⟨hn1, hf1⟩ := VAt.readR hatR.out (k := i) (by rw [hrl]; exact hin)
            rw [s1] at hn1
            obtain ⟨b4, o4, hA4, hbl4, hc4⟩ := (hs3h.out.below hb).read j hjl
            injection hA4 with hA4
            injection hA4 with hA5 hA6
            subst hA5 hA6
            obtain ⟨V, hV⟩ : ∃ V, Q.getD j 0 = V := ⟨_, rfl⟩
            obtain ⟨Z, hZ⟩ : ∃ Z, r.getD i 0 = Z := ⟨_, rfl⟩
            rw [hV] at hc4 s2
            rw [hZ] at hn1 s2
            have cM := fun W => (mul_own F V W).mono fun _ _ ⟨a, b⟩ => And.intro a b.symm
            obtain ⟨T, hT⟩ : ∃ T, tms F V = T := ⟨_, rfl⟩
            rw [hT] at cM s2
            have cA := fun W => (add_own Z T W).mono fun _ _ ⟨a, b⟩ => And.intro a b.symm
            obtain ⟨S, hS⟩ : ∃ S, Z ^^^ T = S := ⟨_, rfl⟩
            rw [hS] at cA s2
            replace cM := Lib.hid cM
            replace cA := Lib.hid cA
            have hatR2 := Lib.hid (show VAt (wr.setCell ⟨GR, i, none⟩ (bv S)).drew GR (rs (rj r Q a F (j + 1))) by
              have := (VAt.setR hatR.out (k := i) (by rw [hrl]; exact hin) S).drew
              rw [s2] at this
              exact this)
            have hatQ2 := Lib.hid (show VAt (wr.setCell ⟨GR, i, none⟩ (bv S)).drew GQ (rs (dd.set a F)) from (VAt.far hatQ.out hne.out.1 _).drew)
            have hg2 := Lib.hid (show GR < (wr.setCell ⟨GR, i, none⟩ (bv S)).drew.heap.size ∧ GQ < (wr.setCell ⟨GR, i, none⟩ (bv S)).drew.heap.size by simpa using hg.out)
            have hb2 := chainN (hb.setCell (p := ⟨GR, i, none⟩) hne.out.2.1 (bv S)) 1
            have j1 : (j : Int) < (nQ : Int) := by omega
            have j0 : (0 : Int) ≤ (j : Int) := by omega
            have e1 : (a : Int) + (j : Int) = (i : Int) := by omega
            have n0' : (0 : Int) ≤ (i : Int) := by omega
            have n1 : (i : Int) < (n0 : Int) := by omega
            have e2 : IntKind.i64.wrap (i : Int) = (i : Int) := by rw [IntKind.wrap_i64]; omega
            clear hatR hatQ hg hi hjl s1 s2 hrl hV hZ hT hS
            go_wp2_with fail
            refine wp_region_still_tail 18 (by kernel_rfl) (by kernel_rfl) ?_
            simp only [List.take_succ_cons, List.take_zero, List.drop_succ_cons, List.drop_zero]
            repeat still_step
            still_call (cM.out _)
            still_call (cA.out _)
            repeat still_step
            refine wpStill_nil ?_
            change wpList _ _ _ _ _ wr.drew
            go_wp2
            go_roundw
            case rel => exact ⟨j + 1, by omega, by go_num, hatR2, hatQ2, hg2, hb2⟩
            case measure => simp [intOf]; omega
          · have j1 : ¬ (j : Int) < (nQ : Int) := by omega
            have hjI : j = I + 1 := by have := hnQh.out; omega
            rw [hjI] at hatR
            clear hjI
            go_wp2
            go_roundw
            case rel => exact ⟨t + 1, rj r Q a F (I + 1), dd.set a F, by omega, by go_num, hstep, hatR, hatQ, hg, hb⟩
            case measure => simp [intOf]; omega
      · have t1 : ¬ (t : Int) < (nq : Int) := by omega
        have htn : t = nq := by omega
        rw [htn] at hds
        have hdv := Lib.hid (DS.done hds.out hIh.out hnI.out (by omega) hQh.out hplh.out)
        have hslR := Lib.hid (IsSl.of_at hatR.out hds.out.lr (by omega) hg.out.1)
        have hslQ := Lib.hid (IsSl.of_at hatQ.out hds.out.ld (by omega) hg.out.2)
        have hld := Lib.hid hds.out.ld
        have htl := trim_len r
        have hfr := trim_take r
        have cS := fun nn : Nat => (size_own (hslR.out.drewN nn) (by rw [hds.out.lr]; omega)).mono fun _ _ ⟨a, b⟩ => And.intro a b.symm
        rw [hds.out.lr] at cS htl
        obtain ⟨m, hm⟩ : ∃ m, (trim r).length = m := ⟨_, rfl⟩
        rw [hm] at cS htl hfr
        have hmn : (m : Int) ≤ (n0 : Int) := by omega
        have hmh := Lib.hid hm
        replace hfr := Lib.hid hfr
        replace cS := Lib.hid cS
        have hBB := chain hbw2.out hb
        clear hatR hatQ hg hds htl hm hb htn hlt
        go_wp2
        go_quiet ((go_at_call 70; exact Calls.quiet_of_same (cS.out _)))
        go_wp2
        go_ret3
        exact ⟨dd, trim r, _, _, _, _, hdv.out, by rw [hld.out, hmh.out]; rfl, hslQ.out.drewN nq, (hslR.out.front m hfr.out).drewN nq, chainN hBB nq⟩
  · obtain ⟨z, hz⟩ : ∃ z : Int, (n0 : Int) - (nQ : Int) = z := ⟨_, rfl⟩
    obtain ⟨z1, hz1⟩ : ∃ z1 : Int, z + 1 = z1 := ⟨_, rfl⟩
    have zb : -200 ≤ z ∧ z ≤ 200 := by omega
    have zb1 := zb.1
    have zb2 := zb.2
    have p0 : ¬ (0 : Int) < z1 := by omega
    have hmk : (Instr.makeSlice 28 (.int .i64 0) (.int .i64 0)).run Try.prog w3 = .ok (.slice (some ⟨w3.heap.size, 0, none⟩) 0 0) (w3.alloc (.cells (madeCells #[.int .u8 0] 0) 5)) := make_zeros w3 0 (by decide)
    have hatQ := zeros_at w3 0 (by decide)
    have ob := mb w3 (.cells (madeCells #[.int .u8 0] 0) 5)
    have hdv := Lib.hid (Dvd.small (p := p) (q := q) (by rw [hn0h.out, hQh.out, hQn.out]; omega))
    have hslR := Lib.hid (IsSl.of_at (hatR.below ob hglR) hn0h.out (by omega) (Nat.lt_of_lt_of_le hglR ob.size))
    have hslQ := Lib.hid (IsSl.of_at (n := 0) hatQ (by simp) (by decide) (show w3.heap.size < _ by simp))
    have hBB := Lib.hid (chain (chain hbw2.out hb4) ob)
    clear zb hatR hglR hb4 hatQ ob hle
    go_wp2
    go_loopw [43] (fun a wr => a = .int .i64 0 ∧ wr = w3.alloc (.cells (madeCells #[.int .u8 0] 0) 5)) (fun a _ => 0)
    case atStart => exact ⟨rfl, rfl⟩
    case round =>
      obtain ⟨rfl, rfl⟩ := hrel
      have cS := fun nn : Nat => (size_own (hslR.out.drewN nn) (by rw [hn0h.out]; omega)).mono fun _ _ ⟨a, b⟩ => And.intro a b.symm
      have htt : (trim (trim p)).length = n0 := by rw [(trim_trim p).eq, hn0h.out]
      rw [htt, hn0h.out] at cS
      replace cS := Lib.hid cS
      clear htt
      go_wp2
      go_quiet ((go_at_call 70; exact Calls.quiet_of_same (cS.out _)))
      go_wp2
      go_ret3
      exact ⟨[], trim p, _, _, _, _, hdv.out, by rw [hn0h.out]; rfl, hslQ.out.drewN nq, hslR.out.drewN nq, chainN hBB.out nq⟩
end Go.Proofs.Ytkobcffkgaodbaa.G6
