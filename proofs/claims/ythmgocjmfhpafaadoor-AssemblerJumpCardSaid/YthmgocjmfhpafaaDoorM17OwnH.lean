/- The contract of the landed Run of layer 17, over its step. -/
import Derived.Test.YthmgocjmfhpafaaDoorM17OwnG
import Derived.Test.YthmgocjmfhpafaaDoorM17OwnD
namespace Go.Proofs.YthmgocjmfhpafaaDoor.M17
set_option maxRecDepth 100000
open Go.RowKit Mem
set_option linter.unusedVariables false
set_option linter.unusedSimpArgs false

/-- An outcome as a value. -/
def outV (o : Out) : Value := .agg #[.string ⟨o.out.toArray⟩, .int .i64 (o.err : Int), .int .i64 (o.steps : Int)]
set_option maxHeartbeats 8000000 in
theorem Run_any (hstep : ∀ (w0 w : World) (base B k : Nat) (s : St), On w0 base w B s k → s.out.length ≤ 1000000000 → Calls Tryd.prog 84 #[.pointer (some ⟨B, 0, none⟩)] w (StQ w0 base B k s))
    {A IA : Option Addr} {n c m ic : Nat} {ts : List Txt} {inp : List Nat} {w : World} (h : IsTxts w A n c ts) (hI : IsInp w IA m ic inp) (start steps : Int) :
    Calls Tryd.prog 26 #[.slice A n c, .int .i64 start, .slice IA m ic, .int .i64 steps] w fun e w' => e = .returned (outV (ans ts start inp steps)) ∧ Below w.heap.size w w' := by
  obtain ⟨W0, hW0⟩ : ∃ W, w.alloc (.cells #[.string ⟨#[]⟩, .int .i64 0, .int .i64 0] 49) = W := ⟨_, rfl⟩
  obtain ⟨G, hG⟩ : ∃ G, w.heap.size = G := ⟨_, rfl⟩
  have hb0 : Below G w W0 := by rw [← hW0, ← hG]; exact (Below.refl _ _).alloc (Nat.le_refl _) _
  have hk0 : Blk 49 W0 G [.string ⟨#[]⟩, .int .i64 0, .int .i64 0] := by rw [← hW0, ← hG]; exact Blk.new w _ _
  have h0 := h.below (by rw [hG]; exact hb0)
  have cC := Lib.hid (checkRun_own h0 start steps)
  rw [hG]
  obtain ⟨Q, hQ⟩ : ∃ Q, (fun (e : Ending) (w' : World) => e = .returned (outV (ans ts start inp steps)) ∧ Below G w w') = Q := ⟨_, rfl⟩
  rw [hQ]
  -- what is handed back
  have hend : ∀ (W : World) (tmps : Array Value) (s : List UInt8) (x y : Int), tmps.getD 8 undef = .pointer (some ⟨G, 0, none⟩) → Blk 49 W G [.string ⟨s.toArray⟩, .int .i64 x, .int .i64 y] → Q (.returned (.agg #[.string ⟨s.toArray⟩, .int .i64 x, .int .i64 y])) W →
      bodyPost Tryd.prog Tryd.f26 Q .ret { tmps := tmps, defers := [] } W := fun W tmps s x y h1 h2 h3 =>
    bodyPost_ret (results_cell_row (by rfl) tmps W G 49 #[.string ⟨s.toArray⟩, .int .i64 x, .int .i64 y] (0, 0) _ h1 h2 Tryd.underlying49 rfl (by kernel_rfl)) rfl h3
  replace hend := Lib.hid hend
  replace hb0 := Lib.hid hb0
  replace hk0 := Lib.hid hk0
  replace hQ := Lib.hid hQ
  replace hstep := Lib.hid hstep
  replace h0 := Lib.hid h0
  have hI0 := Lib.hid hI
  clear h hI
  go_enter Tryd.func26, Tryd.ntmps26
  go_wp2_with fail
  refine (cC.out).mono ?_
  rintro e w1 ⟨rfl, hb1⟩
  have hk1 : Blk 49 w1 G [.string ⟨#[]⟩, .int .i64 0, .int .i64 0] := (hb1.block G hk0.out.lt).trans hk0.out
  have hbw1 : Below G w w1 := hb0.out.trans (hb1.mono (by have := hk0.out.lt; omega))
  obtain ⟨x, hx⟩ : ∃ x, chk ts start steps = x := ⟨_, rfl⟩
  by_cases hne : x = 0
  · obtain ⟨⟨s0, s1⟩, hts, ⟨p0, p1⟩, hans⟩ := ans_good (inp := inp) (hx.trans hne)
    obtain ⟨q, hq⟩ : ∃ q, start.toNat = q := ⟨_, rfl⟩
    obtain ⟨lim, hlim⟩ : ∃ lim, steps.toNat = lim := ⟨_, rfl⟩
    have eq1 : start = (q : Int) := by omega
    have eq2 : steps = (lim : Int) := by omega
    have cN := newState_own (h0.out.below hb1) (IA := IA) (m := m) (ic := ic) (inp := inp) ⟨hI0.out.len, hI0.out.le, hI0.out.capm, hI0.out.nil, hI0.out.rd.below (by rw [hG]; exact hbw1), hI0.out.fit⟩ q (by omega) hts
    rw [hq, hlim] at hans
    rw [hx, hne]
    rw [show ((0 : Nat) : Int) = 0 from rfl]
    have hlim2 : lim ≤ 1000000000 := by omega
    subst eq1 eq2
    replace cN := Lib.hid cN
    replace hk1 := Lib.hid hk1
    replace hbw1 := Lib.hid hbw1
    replace hans := Lib.hid hans
    clear hx hts hb1 cC hne s0 s1 p0 p1 hq hlim
    go_wp2_with fail
    refine (cN.out).mono ?_
    rintro e w2 ⟨B, rfl, hOn⟩
    have hbel2 := hOn.bel.bel
    have hk2 : Blk 49 w2 G [.string ⟨#[]⟩, .int .i64 0, .int .i64 0] := (hbel2.block G hk1.out.lt).trans hk1.out
    have hbw2 : Below G w w2 := hbw1.out.trans (hbel2.mono (by have := hk1.out.lt; omega))
    have cR := Lib.hid (run_any hstep.out hOn.root (by exact hbel2.size) rfl lim hlim2)
    replace hk2 := Lib.hid hk2
    replace hbw2 := Lib.hid hbw2
    have hsz := Lib.hid hk1.out.lt
    clear hOn hbel2 hk1 hbw1 cN
    go_wp2_with fail
    refine (cR.out).mono ?_
    rintro e w3 ⟨rfl, s', hso, hOn⟩
    have hbel3 := hOn.bel.bel
    have hk3 : Blk 49 w3 G [.string ⟨#[]⟩, .int .i64 0, .int .i64 0] := (hbel3.block G hsz.out).trans hk2.out
    have hbw3 : Below G w w3 := hbw2.out.trans (hbel3.mono (by have := hsz.out; omega))
    obtain ⟨o, ho⟩ : ∃ o, run lim (init ts q inp) = o := ⟨_, rfl⟩
    rw [ho] at hso hOn ⊢
    have hans2 := hans.out
    rw [ho] at hans2
    obtain ⟨M, E, P, D, C, O, IA', ic', hA⟩ := hOn
    have c9 := (hA.f (i := 9) (v := O) rfl).1
    have c10 := (hA.f (i := 10) (v := .int .i64 (o.steps : Int)) rfl).1
    have hcv : ∀ k, (convert 43 9 O).run Tryd.prog (w3.drewN k) = .ok (.string ⟨o.out.toArray⟩) (w3.drewN k) := fun k => by
      rw [← hso]
      exact conv_own Tryd.underlying43 Tryd.underlying5 Tryd.underlying9 (hA.drewN k).out
    have hcv1 := hcv 1
    rw [show w3.drewN 1 = w3.drew from rfl] at hcv1
    have k0 := hk3.frz 0
    have k1 := hk3.frz 1
    have k2 := hk3.frz 2
    have j0 := hk3.cell 0
    have j1 := hk3.cell 1
    have j2 := hk3.cell 2
    simp only [List.getElem?_cons_zero, List.getElem?_cons_succ] at j0 j1 j2
    obtain ⟨s, hs⟩ : ∃ s, o.out = s := ⟨_, rfl⟩
    rw [hs] at hcv1
    have hfin : Q (.returned (.agg #[.string ⟨s.toArray⟩, .int .i64 (o.err : Int), .int .i64 (o.steps : Int)])) ((((w3.setCell ⟨G, 0, none⟩ (.string ⟨s.toArray⟩)).setCell ⟨G, 1, none⟩ (.int .i64 (o.err : Int))).setCell ⟨G, 2, none⟩ (.int .i64 (o.steps : Int))).drew) := by
      rw [← hQ.out]
      refine ⟨by rw [hans2]; unfold outV; rw [hs], ?_⟩
      exact (((hbw3.setCell (p := ⟨G, 0, none⟩) (Nat.le_refl _) _).setCell (p := ⟨G, 1, none⟩) (Nat.le_refl _) _).setCell (p := ⟨G, 2, none⟩) (Nat.le_refl _) _).drew
    have hbk : Blk 49 ((((w3.setCell ⟨G, 0, none⟩ (.string ⟨s.toArray⟩)).setCell ⟨G, 1, none⟩ (.int .i64 (o.err : Int))).setCell ⟨G, 2, none⟩ (.int .i64 (o.steps : Int))).drew) G [.string ⟨s.toArray⟩, .int .i64 (o.err : Int), .int .i64 (o.steps : Int)] := ((hk3.set 0 _).set 1 _).set 2 _
    replace hfin := Lib.hid hfin
    replace hbk := Lib.hid hbk
    clear hk3 hbw3 hbel3 hA hso hcv ho hans hans2 hs hbw2 hk2 cR hsz
    go_wp2_with fail
    go_region
    go_wp2
    exact hend.out _ _ s _ _ rfl hbk.out hfin.out
  · have hans := ans_bad (inp := inp) (by rw [hx]; exact hne)
    rw [hx] at hans ⊢
    have t1 : ((x : Int) != 0) = true := by simp; omega
    have t2 : ((x : Int) == 0) = false := by simp; omega
    have k0 := hk1.frz 0
    have k1 := hk1.frz 1
    have k2 := hk1.frz 2
    have j0 := hk1.cell 0
    have j1 := hk1.cell 1
    have j2 := hk1.cell 2
    simp only [List.getElem?_cons_zero, List.getElem?_cons_succ] at j0 j1 j2
    have hfin : Q (.returned (.agg #[.string ⟨([] : List UInt8).toArray⟩, .int .i64 (x : Int), .int .i64 0])) (((w1.setCell ⟨G, 0, none⟩ (.string ⟨#[]⟩)).setCell ⟨G, 1, none⟩ (.int .i64 (x : Int))).setCell ⟨G, 2, none⟩ (.int .i64 0)) := by
      rw [← hQ.out]
      exact ⟨by rw [hans]; rfl, ((hbw1.setCell (p := ⟨G, 0, none⟩) (Nat.le_refl _) _).setCell (p := ⟨G, 1, none⟩) (Nat.le_refl _) _).setCell (p := ⟨G, 2, none⟩) (Nat.le_refl _) _⟩
    have hbk : Blk 49 (((w1.setCell ⟨G, 0, none⟩ (.string ⟨#[]⟩)).setCell ⟨G, 1, none⟩ (.int .i64 (x : Int))).setCell ⟨G, 2, none⟩ (.int .i64 0)) G [.string ⟨([] : List UInt8).toArray⟩, .int .i64 (x : Int), .int .i64 0] := ((hk1.set 0 (.string ⟨#[]⟩)).set 1 _).set 2 _
    replace hfin := Lib.hid hfin
    replace hbk := Lib.hid hbk
    clear hne hx hk1 hbw1 hb1 hans
    go_wp2
    exact hend.out _ _ [] _ _ rfl hbk.out hfin.out
end Go.Proofs.YthmgocjmfhpafaaDoor.M17
