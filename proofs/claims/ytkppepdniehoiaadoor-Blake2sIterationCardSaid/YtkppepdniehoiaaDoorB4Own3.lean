/- The contract of the landed package's rounds. -/
import Derived.Test.YtkppepdniehoiaaDoorB4Reg
namespace Go.Proofs.YtkppepdniehoiaaDoor.B4
open Go.RowKit Mem Parts
set_option linter.unusedVariables false
set_option linter.unusedSimpArgs false

section
variable {P : Program} {ops : Array Oper} {w w' : World} {o : Oper} {rest : List Oper} {a : Act} {v : Value}
theorem list_any {Q : Exit → Act → World → Prop} (hg : o.guard = none) (h : (execOp a.eval o).run P w = .ok (.value v) w') (hr : wpList P ops Q rest (a.put o.dst v) w') : wpList P ops Q (o :: rest) a w :=
  wpList_plain hg fun _ hK => by
    unfold Oper.wp
    rw [h]
    exact hK _ _ hr
end
theorem ex_less {o : Oper} {a : Act} {t : Nat} {n k : Nat} (ho : o.op = .binOp .lss 3 (.tmp t) (.const (.int .i64 (n : Int))) 3) (h : At a t (.int .i64 (k : Int))) (w : World) :
    (execOp a.eval o).run Tryd.prog w = .ok (.value (.bool (decide (k < n)))) w := by
  have e : a.tmps[t]?.getD undef = .int .i64 (k : Int) := by unfold At at h; rw [h]; rfl
  clear h
  unfold execOp
  simp only [ho]
  go_simp
theorem ex_next {o : Oper} {a : Act} {t : Nat} {k : Nat} (ho : o.op = .binOp .add 3 (.tmp t) (.const (.int .i64 1)) 3) (h : At a t (.int .i64 (k : Int))) (hk : k < 1000000) (w : World) :
    (execOp a.eval o).run Tryd.prog w = .ok (.value (.int .i64 ((k + 1 : Nat) : Int))) w := by
  have e : a.tmps[t]?.getD undef = .int .i64 (k : Int) := by unfold At at h; rw [h]; rfl
  clear h
  have h1 : (k : Int) < 1000000 := by omega
  have hn : (((k + 1 : Nat)) : Int) = (k : Int) + 1 := by omega
  rw [hn]
  clear hn
  have hw : IntKind.i64.wrap ((k : Int) + 1) = (k : Int) + 1 := IntWalk.i64_in _ (by omega)
  unfold execOp
  simp only [ho]
  go_simp
theorem ex_alloc16b {o : Oper} {a : Act} (ho : o.op = .alloc 60) (w : World) : (execOp a.eval o).run Tryd.prog w = .ok (.value (.pointer (some ⟨w.heap.size, 0, none⟩))) (w.alloc (.cells (bvs zerosB).toArray 60)) := by
  unfold execOp
  simp only [ho]
  go_simp
  rfl

def INV (w : World) (v m : List R) (PA : Array Value) (G : Nat) (a : Act) (wr : World) : Prop :=
  ∃ (k : Nat) (l : List R), k ≤ 10 ∧ a.tmps.size = 221 ∧ a.defers = [] ∧ At a 2 (.pointer (some ⟨G, 0, none⟩)) ∧ At a 3 (.pointer (some ⟨G + 1, 0, none⟩)) ∧ At a 4 (.pointer (some ⟨G + 1 + 1, 0, none⟩)) ∧ At a 7 (.agg PA) ∧ At a 8 (.int .i64 (k : Int)) ∧
    l.length = 16 ∧ l = roundsL m k v ∧ Arr 48 wr G l ∧ Arr 48 wr (G + 1) m ∧ Arr 48 wr (G + 1 + 1) zeros16 ∧ Below w.heap.size w wr
def MU (a : Act) (_ : World) : Nat := 10 - (intOf (a.eval (.tmp 8))).toNat

set_option maxRecDepth 100000 in
set_option maxHeartbeats 4000000 in
theorem orounds_any (v m : List R) (w : World) (hv : v.length = 16) (hm : m.length = 16) (hL : Laid w) :
    Calls Tryd.prog 30 #[av v, av m] w fun e w' => e = .returned (av (roundsL m 10 v)) ∧ Below w.heap.size w w' := by
  obtain ⟨tP, frP, hP⟩ := block_of_var gPerm hL.2
  have hip := info_perm
  have hidx := Lib.hid idx_perm
  obtain ⟨PA, hPA⟩ : ∃ P, permA = P := ⟨_, rfl⟩
  rw [hPA] at hP hip hidx
  clear hPA hL
  have hsz : (wvs v).toArray.size = 16 := by simp [wvs_len, hv]
  have hszm : (wvs m).toArray.size = 16 := by simp [wvs_len, hm]
  have hA0 : Arr 48 (((w.alloc (.cells (wvs v).toArray 48)).alloc (.cells (wvs m).toArray 48)).alloc (.cells (wvs zeros16).toArray 48)) w.heap.size v := arr_old (arr_old (arr_new w v _) _) _
  have hM0 : Arr 48 (((w.alloc (.cells (wvs v).toArray 48)).alloc (.cells (wvs m).toArray 48)).alloc (.cells (wvs zeros16).toArray 48)) (w.heap.size + 1) m := by
    have := arr_new (w.alloc (.cells (wvs v).toArray 48)) m 48
    rw [show (w.alloc (.cells (wvs v).toArray 48)).heap.size = w.heap.size + 1 by simp] at this
    exact arr_old this _
  have hR0 : Arr 48 (((w.alloc (.cells (wvs v).toArray 48)).alloc (.cells (wvs m).toArray 48)).alloc (.cells (wvs zeros16).toArray 48)) (w.heap.size + 1 + 1) zeros16 := by
    have := arr_new ((w.alloc (.cells (wvs v).toArray 48)).alloc (.cells (wvs m).toArray 48)) zeros16 48
    rw [show ((w.alloc (.cells (wvs v).toArray 48)).alloc (.cells (wvs m).toArray 48)).heap.size = w.heap.size + 1 + 1 by simp] at this
    exact this
  have hb0 : Below w.heap.size w (((w.alloc (.cells (wvs v).toArray 48)).alloc (.cells (wvs m).toArray 48)).alloc (.cells (wvs zeros16).toArray 48)) := (((Below.refl _ _).alloc (Nat.le_refl _) _).alloc (by simp) _).alloc (by simp; omega) _
  have hP0 := (hb0.block 1 (by rcases Nat.lt_or_ge 1 w.heap.size with h' | h'; exact h'; simp [Array.getElem?_eq_none h'] at hP)).trans hP
  clear hP
  unfold av
  go_enter Tryd.func30, Tryd.ntmps30
  go_wp2_with (refine wpList_load_row rfl 61 (.global 1) rfl 1 rfl tP PA frP _ hP0 Tryd.underlying61 rfl hip ?_)
  change Code.wp _ _ _ _ (((w.alloc (.cells (wvs v).toArray 48)).alloc (.cells (wvs m).toArray 48)).alloc (.cells (wvs zeros16).toArray 48))
  generalize (((w.alloc (.cells (wvs v).toArray 48)).alloc (.cells (wvs m).toArray 48)).alloc (.cells (wvs zeros16).toArray 48)) = w0 at hA0 hM0 hR0 hb0 ⊢
  obtain ⟨G, hG⟩ : ∃ G, w.heap.size = G := ⟨_, rfl⟩
  have hGle : w.heap.size ≤ G := by omega
  rw [hG] at hA0 hM0 hR0 ⊢
  clear hP0 hip
  rename_i Qf Kf hKf
  refine wp_loop (INV w v m PA G) MU ⟨0, v, by omega, rfl, rfl, rfl, rfl, rfl, rfl, rfl, hv, rfl, hA0, hM0, hR0, hb0⟩ (fun a wr hI => ?_)
  clear hA0 hM0 hR0 hb0
  obtain ⟨k, l, hk, hsz, hdf, h2, h3, h4, h7, h8, hl, hlr, hA, hM, hR, hB⟩ := hI
  have hmu : MU a wr = 10 - k := by unfold MU; rw [h8.eval]; simp [intOf]
  rw [hmu]
  clear hmu
  refine wp_seq ?_
  refine wp_region_lit ?_
  refine list_val rfl (ex_less rfl h8 _) ?_
  refine wpList_nil ?_
  show Code.wp _ _ _ (a.put (some 9) (.bool (decide (k < 10)))) wr
  have S1 := (Same.refl a 0 1000).put (n := 9) (by omega) (by omega) (.bool (decide (k < 10)))
  have hcond := At.put (a := a) (n := 9) (by omega) (.bool (decide (k < 10)))
  by_cases hlt : k < 10
  · rw [decide_eq_true hlt] at S1 hcond ⊢
    have j2 := h2.ne (n := 9) (by decide) (.bool true)
    have j3 := h3.ne (n := 9) (by decide) (.bool true)
    have j4 := h4.ne (n := 9) (by decide) (.bool true)
    have j7 := h7.ne (n := 9) (by decide) (.bool true)
    have j8 := h8.ne (n := 9) (by decide) (.bool true)
    generalize a.put (some 9) (.bool true) = a1 at S1 hcond j2 j3 j4 j7 j8 ⊢
    refine wp_seq ?_
    refine wp_cond_true hcond.eval ?_
    refine wp_skip ?_
    show Code.wp _ _ _ a1 wr
    refine wp_seq ?_
    refine wp_block ?_
    refine wp_seq ?_
    refine wp_region_lit ?_
    have hix := hidx.out k hlt wr
    refine list_any (v := .agg (bvs (rowP k)).toArray) (w' := wr) rfl (by unfold execOp; simp only [j7.eval, j8.eval]; go_simp) ?_
    show wpList _ _ _ _ (a1.put (some 10) (.agg (bvs (rowP k)).toArray)) wr
    have S2 := S1.put (n := 10) (by omega) (by omega) (.agg (bvs (rowP k)).toArray)
    have i2 := j2.ne (n := 10) (by decide) (.agg (bvs (rowP k)).toArray)
    have i3 := j3.ne (n := 10) (by decide) (.agg (bvs (rowP k)).toArray)
    have i4 := j4.ne (n := 10) (by decide) (.agg (bvs (rowP k)).toArray)
    have i7 := j7.ne (n := 10) (by decide) (.agg (bvs (rowP k)).toArray)
    have i8 := j8.ne (n := 10) (by decide) (.agg (bvs (rowP k)).toArray)
    have i10 := At.put (a := a1) (n := 10) (by rw [S1.1]; omega) (.agg (bvs (rowP k)).toArray)
    generalize a1.put (some 10) (.agg (bvs (rowP k)).toArray) = a2 at S2 i2 i3 i4 i7 i8 i10 ⊢
    refine list_any rfl (ex_alloc16b rfl wr) ?_
    obtain ⟨Pb, hPb⟩ : ∃ x, wr.heap.size = x := ⟨_, rfl⟩
    have hZ0 := heap_alloc_new wr (.cells (bvs zerosB).toArray 60)
    rw [hPb] at hZ0 ⊢
    show wpList _ _ _ _ (a2.put (some 6) (.pointer (some ⟨Pb, 0, none⟩))) (wr.alloc (.cells (bvs zerosB).toArray 60))
    have S3 := S2.put (n := 6) (by omega) (by omega) (.pointer (some ⟨Pb, 0, none⟩))
    have c2 := i2.ne (n := 6) (by decide) (.pointer (some ⟨Pb, 0, none⟩))
    have c3 := i3.ne (n := 6) (by decide) (.pointer (some ⟨Pb, 0, none⟩))
    have c4 := i4.ne (n := 6) (by decide) (.pointer (some ⟨Pb, 0, none⟩))
    have c7 := i7.ne (n := 6) (by decide) (.pointer (some ⟨Pb, 0, none⟩))
    have c8 := i8.ne (n := 6) (by decide) (.pointer (some ⟨Pb, 0, none⟩))
    have c10 := i10.ne (n := 6) (by decide) (.pointer (some ⟨Pb, 0, none⟩))
    have c6 := At.put (a := a2) (n := 6) (by rw [S2.1]; omega) (.pointer (some ⟨Pb, 0, none⟩))
    generalize a2.put (some 6) (.pointer (some ⟨Pb, 0, none⟩)) = b0 at S3 c2 c3 c4 c6 c7 c8 c10 ⊢
    have hGP : G ≠ Pb := by have := hA.lt; omega
    have hMP : G + 1 ≠ Pb := by have := hM.lt; omega
    have hRP : G + 1 + 1 ≠ Pb := by have := hR.lt; omega
    have hPg : w.heap.size ≤ Pb := by have := hA.lt; omega
    have hz16b : (Tryd.prog.info? 60).map (·.size) = some (bvs (rowP k)).toArray.size := by rw [info_16b]; simp [bvs_len, rowP_len]
    have hold : (bvs zerosB).toArray.size = (bvs (rowP k)).toArray.size := by simp [bvs_len, rowP_len]; rfl
    have hone := bvs_one (rowP k)
    have hA1 := arr_row (cs := (bvs (rowP k)).toArray) (arr_old hA (.cells (bvs zerosB).toArray 60)) hGP
    have hM1 := arr_row (cs := (bvs (rowP k)).toArray) (arr_old hM (.cells (bvs zerosB).toArray 60)) hMP
    have hR1 := arr_row (cs := (bvs (rowP k)).toArray) (arr_old hR (.cells (bvs zerosB).toArray 60)) hRP
    have hB1 := below_setRow (hB.alloc hB.size (.cells (bvs zerosB).toArray 60)) hPg (bvs (rowP k)).toArray
    have hP1 : Arb 60 ((wr.alloc (.cells (bvs zerosB).toArray 60)).setRow Pb (bvs (rowP k)).toArray) Pb (rowP k) := setRow_heap _ Pb _ (bvs (rowP k)).toArray _ _ hZ0
    refine wpList_store_row rfl 60 (.tmp 6) (.tmp 10) rfl Pb (bvs (rowP k)).toArray c6.eval c10.eval 60 _ hZ0 hz16b hold hone ?_
    refine wpList_nil ?_
    generalize ((wr.alloc (.cells (bvs zerosB).toArray 60)).setRow Pb (bvs (rowP k)).toArray) = w1 at hA1 hM1 hR1 hB1 hP1
    show Code.wp _ _ _ b0 w1
    have hl1 : l.length = 16 := hl
    have T0 := Same.refl b0 11 12
    clear S1 S2 j2 j3 j4 j7 j8 i2 i3 i4 i7 i8 i10 hA hM hR hB hZ0 hz16b hold hone hcond hix
    refine wp_seq ?_
    refine region_mix 12 0 4 8 12 0 1 k 0 l m (by kernel_rfl) (by kernel_rfl) (by decide) (by rw [T0.1, S3.1, hsz]; omega) (T0.at (by decide) c2) (T0.at (by decide) c3) (T0.at (by decide) c6) hl1 hm hlt (by decide) (by decide) hA1 hM1 hP1 (by decide) (by decide) (by decide) (fun b1 w2 Sx hA2 hH hb => ?_)
    have T1 := T0.trans (hi' := 37) Sx (by decide) (by decide) (by decide)
    have hM2 : Arr 48 w2 (G + 1) m := (hH (G + 1) (by omega)).trans hM1
    have hR2 : Arr 48 w2 (G + 1 + 1) zeros16 := (hH (G + 1 + 1) (by omega)).trans hR1
    have hP2 : Arb 60 w2 Pb (rowP k) := (hH Pb hGP.symm).trans hP1
    have hB2 := hb _ _ hGle hB1
    have hl2 : (stepL m k l 0).length = 16 := by rw [stepL_len, hl1]
    clear Sx hH hb hA1 hM1 hR1 hP1 hB1
    obtain ⟨l1, hle1⟩ : ∃ x, stepL m k l 0 = x := ⟨_, rfl⟩
    rw [hle1] at hA2 hl2
    show Code.wp _ _ _ b1 w2
    refine wp_seq ?_
    refine region_mix 38 1 5 9 13 2 3 k 1 l1 m (by kernel_rfl) (by kernel_rfl) (by decide) (by rw [T1.1, S3.1, hsz]; omega) (T1.at (by decide) c2) (T1.at (by decide) c3) (T1.at (by decide) c6) hl2 hm hlt (by decide) (by decide) hA2 hM2 hP2 (by decide) (by decide) (by decide) (fun b2 w3 Sx hA3 hH hb => ?_)
    have T2 := T1.trans (hi' := 63) Sx (by decide) (by decide) (by decide)
    have hM3 : Arr 48 w3 (G + 1) m := (hH (G + 1) (by omega)).trans hM2
    have hR3 : Arr 48 w3 (G + 1 + 1) zeros16 := (hH (G + 1 + 1) (by omega)).trans hR2
    have hP3 : Arb 60 w3 Pb (rowP k) := (hH Pb hGP.symm).trans hP2
    have hB3 := hb _ _ hGle hB2
    have hl3 : (stepL m k l1 1).length = 16 := by rw [stepL_len, hl2]
    clear Sx hH hb hA2 hM2 hR2 hP2 hB2
    obtain ⟨l2, hle2⟩ : ∃ x, stepL m k l1 1 = x := ⟨_, rfl⟩
    rw [hle2] at hA3 hl3
    show Code.wp _ _ _ b2 w3
    refine wp_seq ?_
    refine region_mix 64 2 6 10 14 4 5 k 2 l2 m (by kernel_rfl) (by kernel_rfl) (by decide) (by rw [T2.1, S3.1, hsz]; omega) (T2.at (by decide) c2) (T2.at (by decide) c3) (T2.at (by decide) c6) hl3 hm hlt (by decide) (by decide) hA3 hM3 hP3 (by decide) (by decide) (by decide) (fun b3 w4 Sx hA4 hH hb => ?_)
    have T3 := T2.trans (hi' := 89) Sx (by decide) (by decide) (by decide)
    have hM4 : Arr 48 w4 (G + 1) m := (hH (G + 1) (by omega)).trans hM3
    have hR4 : Arr 48 w4 (G + 1 + 1) zeros16 := (hH (G + 1 + 1) (by omega)).trans hR3
    have hP4 : Arb 60 w4 Pb (rowP k) := (hH Pb hGP.symm).trans hP3
    have hB4 := hb _ _ hGle hB3
    have hl4 : (stepL m k l2 2).length = 16 := by rw [stepL_len, hl3]
    clear Sx hH hb hA3 hM3 hR3 hP3 hB3
    obtain ⟨l3, hle3⟩ : ∃ x, stepL m k l2 2 = x := ⟨_, rfl⟩
    rw [hle3] at hA4 hl4
    show Code.wp _ _ _ b3 w4
    refine wp_seq ?_
    refine region_mix 90 3 7 11 15 6 7 k 3 l3 m (by kernel_rfl) (by kernel_rfl) (by decide) (by rw [T3.1, S3.1, hsz]; omega) (T3.at (by decide) c2) (T3.at (by decide) c3) (T3.at (by decide) c6) hl4 hm hlt (by decide) (by decide) hA4 hM4 hP4 (by decide) (by decide) (by decide) (fun b4 w5 Sx hA5 hH hb => ?_)
    have T4 := T3.trans (hi' := 115) Sx (by decide) (by decide) (by decide)
    have hM5 : Arr 48 w5 (G + 1) m := (hH (G + 1) (by omega)).trans hM4
    have hR5 : Arr 48 w5 (G + 1 + 1) zeros16 := (hH (G + 1 + 1) (by omega)).trans hR4
    have hP5 : Arb 60 w5 Pb (rowP k) := (hH Pb hGP.symm).trans hP4
    have hB5 := hb _ _ hGle hB4
    have hl5 : (stepL m k l3 3).length = 16 := by rw [stepL_len, hl4]
    clear Sx hH hb hA4 hM4 hR4 hP4 hB4
    obtain ⟨l4, hle4⟩ : ∃ x, stepL m k l3 3 = x := ⟨_, rfl⟩
    rw [hle4] at hA5 hl5
    show Code.wp _ _ _ b4 w5
    refine wp_seq ?_
    refine region_mix 116 0 5 10 15 8 9 k 4 l4 m (by kernel_rfl) (by kernel_rfl) (by decide) (by rw [T4.1, S3.1, hsz]; omega) (T4.at (by decide) c2) (T4.at (by decide) c3) (T4.at (by decide) c6) hl5 hm hlt (by decide) (by decide) hA5 hM5 hP5 (by decide) (by decide) (by decide) (fun b5 w6 Sx hA6 hH hb => ?_)
    have T5 := T4.trans (hi' := 141) Sx (by decide) (by decide) (by decide)
    have hM6 : Arr 48 w6 (G + 1) m := (hH (G + 1) (by omega)).trans hM5
    have hR6 : Arr 48 w6 (G + 1 + 1) zeros16 := (hH (G + 1 + 1) (by omega)).trans hR5
    have hP6 : Arb 60 w6 Pb (rowP k) := (hH Pb hGP.symm).trans hP5
    have hB6 := hb _ _ hGle hB5
    have hl6 : (stepL m k l4 4).length = 16 := by rw [stepL_len, hl5]
    clear Sx hH hb hA5 hM5 hR5 hP5 hB5
    obtain ⟨l5, hle5⟩ : ∃ x, stepL m k l4 4 = x := ⟨_, rfl⟩
    rw [hle5] at hA6 hl6
    show Code.wp _ _ _ b5 w6
    refine wp_seq ?_
    refine region_mix 142 1 6 11 12 10 11 k 5 l5 m (by kernel_rfl) (by kernel_rfl) (by decide) (by rw [T5.1, S3.1, hsz]; omega) (T5.at (by decide) c2) (T5.at (by decide) c3) (T5.at (by decide) c6) hl6 hm hlt (by decide) (by decide) hA6 hM6 hP6 (by decide) (by decide) (by decide) (fun b6 w7 Sx hA7 hH hb => ?_)
    have T6 := T5.trans (hi' := 167) Sx (by decide) (by decide) (by decide)
    have hM7 : Arr 48 w7 (G + 1) m := (hH (G + 1) (by omega)).trans hM6
    have hR7 : Arr 48 w7 (G + 1 + 1) zeros16 := (hH (G + 1 + 1) (by omega)).trans hR6
    have hP7 : Arb 60 w7 Pb (rowP k) := (hH Pb hGP.symm).trans hP6
    have hB7 := hb _ _ hGle hB6
    have hl7 : (stepL m k l5 5).length = 16 := by rw [stepL_len, hl6]
    clear Sx hH hb hA6 hM6 hR6 hP6 hB6
    obtain ⟨l6, hle6⟩ : ∃ x, stepL m k l5 5 = x := ⟨_, rfl⟩
    rw [hle6] at hA7 hl7
    show Code.wp _ _ _ b6 w7
    refine wp_seq ?_
    refine region_mix 168 2 7 8 13 12 13 k 6 l6 m (by kernel_rfl) (by kernel_rfl) (by decide) (by rw [T6.1, S3.1, hsz]; omega) (T6.at (by decide) c2) (T6.at (by decide) c3) (T6.at (by decide) c6) hl7 hm hlt (by decide) (by decide) hA7 hM7 hP7 (by decide) (by decide) (by decide) (fun b7 w8 Sx hA8 hH hb => ?_)
    have T7 := T6.trans (hi' := 193) Sx (by decide) (by decide) (by decide)
    have hM8 : Arr 48 w8 (G + 1) m := (hH (G + 1) (by omega)).trans hM7
    have hR8 : Arr 48 w8 (G + 1 + 1) zeros16 := (hH (G + 1 + 1) (by omega)).trans hR7
    have hP8 : Arb 60 w8 Pb (rowP k) := (hH Pb hGP.symm).trans hP7
    have hB8 := hb _ _ hGle hB7
    have hl8 : (stepL m k l6 6).length = 16 := by rw [stepL_len, hl7]
    clear Sx hH hb hA7 hM7 hR7 hP7 hB7
    obtain ⟨l7, hle7⟩ : ∃ x, stepL m k l6 6 = x := ⟨_, rfl⟩
    rw [hle7] at hA8 hl8
    show Code.wp _ _ _ b7 w8
    refine region_mix 194 3 4 9 14 14 15 k 7 l7 m (by kernel_rfl) (by kernel_rfl) (by decide) (by rw [T7.1, S3.1, hsz]; omega) (T7.at (by decide) c2) (T7.at (by decide) c3) (T7.at (by decide) c6) hl8 hm hlt (by decide) (by decide) hA8 hM8 hP8 (by decide) (by decide) (by decide) (fun b8 w9 Sx hA9 hH hb => ?_)
    have T8 := T7.trans (hi' := 219) Sx (by decide) (by decide) (by decide)
    have hM9 : Arr 48 w9 (G + 1) m := (hH (G + 1) (by omega)).trans hM8
    have hR9 : Arr 48 w9 (G + 1 + 1) zeros16 := (hH (G + 1 + 1) (by omega)).trans hR8
    have hP9 : Arb 60 w9 Pb (rowP k) := (hH Pb hGP.symm).trans hP8
    have hB9 := hb _ _ hGle hB8
    have hl9 : (stepL m k l7 7).length = 16 := by rw [stepL_len, hl8]
    clear Sx hH hb hA8 hM8 hR8 hP8 hB8
    obtain ⟨l8, hle8⟩ : ∃ x, stepL m k l7 7 = x := ⟨_, rfl⟩
    rw [hle8] at hA9 hl9
    show Code.wp _ _ _ b8 w9
    have hsz8 : b8.tmps.size = 221 := by rw [T8.1, S3.1, hsz]
    have hdf8 : b8.defers = [] := by rw [T8.2.1, S3.2.1, hdf]
    have k2 := T8.at (by decide) c2
    have k3 := T8.at (by decide) c3
    have k4 := T8.at (by decide) c4
    have k7 := T8.at (by decide) c7
    have k8 := T8.at (by decide) c8
    clear T0 T1 T2 T3 T4 T5 T6 T7 T8 c2 c3 c4 c6 c7 c8 c10 S3
    refine wp_region_lit ?_
    refine list_val rfl (ex_next rfl k8 (by omega) _) ?_
    show wpList _ _ _ _ (b8.put (some 219) (.int .i64 ((k + 1 : Nat) : Int))) w9
    have q2 := k2.ne (n := 219) (by decide) (.int .i64 ((k + 1 : Nat) : Int))
    have q3 := k3.ne (n := 219) (by decide) (.int .i64 ((k + 1 : Nat) : Int))
    have q4 := k4.ne (n := 219) (by decide) (.int .i64 ((k + 1 : Nat) : Int))
    have q7 := k7.ne (n := 219) (by decide) (.int .i64 ((k + 1 : Nat) : Int))
    have q9 := At.put (a := b8) (n := 219) (by omega) (.int .i64 ((k + 1 : Nat) : Int))
    have qz := put_size b8 219 (.int .i64 ((k + 1 : Nat) : Int))
    have qd : (b8.put (some 219) (.int .i64 ((k + 1 : Nat) : Int))).defers = [] := hdf8
    generalize b8.put (some 219) (.int .i64 ((k + 1 : Nat) : Int)) = e at q2 q3 q4 q7 q9 qz qd ⊢
    refine list_val rfl (ex_move rfl q9.eval _) ?_
    refine wpList_nil ?_
    show INV w v m PA G (e.put (some 8) (.int .i64 ((k + 1 : Nat) : Int))) w9 ∧ MU (e.put (some 8) (.int .i64 ((k + 1 : Nat) : Int))) w9 < 10 - k
    have r8 := At.put (a := e) (n := 8) (by omega) (.int .i64 ((k + 1 : Nat) : Int))
    refine ⟨⟨k + 1, l8, by omega, by rw [put_size, qz, hsz8], qd, q2.ne (by decide) _, q3.ne (by decide) _, q4.ne (by decide) _, q7.ne (by decide) _, r8, hl9, ?_, hA9, hM9, hR9, hB9⟩, ?_⟩
    · rw [← hle8, ← hle7, ← hle6, ← hle5, ← hle4, ← hle3, ← hle2, ← hle1, hlr]
      rfl
    · unfold MU
      rw [r8.eval]
      simp only [intOf]
      omega
  · obtain rfl : k = 10 := by omega
    rw [decide_eq_false hlt] at S1 hcond ⊢
    have j2 := h2.ne (n := 9) (by decide) (.bool false)
    have j4 := h4.ne (n := 9) (by decide) (.bool false)
    generalize a.put (some 9) (.bool false) = a1 at S1 hcond j2 j4 ⊢
    refine wp_seq ?_
    refine wp_cond_false hcond.eval ?_
    refine wp_exit ?_
    have hz16 : (Tryd.prog.info? 48).map (·.size) = some (wvs l).toArray.size := by rw [info_16w]; simp [wvs_len, hl]
    have hold : (wvs zeros16).toArray.size = (wvs l).toArray.size := by simp [wvs_len, hl]; rfl
    have hone := wvs_one l
    have hB9 := below_setRow hB (show w.heap.size ≤ G + 1 + 1 by omega) (wvs l).toArray
    have hR9 := setRow_heap _ (G + 1 + 1) _ (wvs l).toArray _ _ hR
    show Kf a1 wr
    refine hKf _ _ ?_
    refine wp_seq ?_
    refine wp_region_lit ?_
    refine wpList_load_row rfl 48 (.tmp 2) rfl G j2.eval 48 _ (0, 0) _ hA Tryd.underlying48 rfl hz16 ?_
    have z4 := j4.ne (n := 220) (by decide) (.agg (wvs l).toArray)
    have z20 := At.put (a := a1) (n := 220) (by rw [S1.1]; omega) (.agg (wvs l).toArray)
    refine wpList_store_row rfl 48 (.tmp 4) (.tmp 220) rfl (G + 1 + 1) _ z4.eval z20.eval 48 _ hR hz16 hold hone ?_
    refine wpList_nil ?_
    refine wp_ret ?_
    exact bodyPost_ret (results_cell_row rfl _ _ (G + 1 + 1) 48 _ (0, 0) _ z4.eval hR9 Tryd.underlying48 rfl hz16) (S1.2.1.trans hdf) ⟨by rw [hlr], hB9⟩
end Go.Proofs.YtkppepdniehoiaaDoor.B4
