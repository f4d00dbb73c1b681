/- The walk of the law LayoutPositions. -/
import Derived.Test.YtcfoclmkhippoaaL16Open
import Derived.Test.YtcfoclmkhippoaaL16Lp
import Derived.Test.YtcfoclmkhippoaaL16Ref1
namespace Go.Proofs.Ytcfoclmkhippoaa.L16
set_option maxRecDepth 100000
open Go.RowKit Mem
open Go.Proofs.Ytcfoclmkhippoaa.G5 Go.Proofs.Ytcfoclmkhippoaa.G7 Go.Proofs.Ytcfoclmkhippoaa.E15
set_option linter.unusedVariables false
set_option linter.unusedSimpArgs false

theorem chk_two (D S : Int) : ∃ K : Int, (∀ W, Calls Try.prog 15 #[.agg #[.int .i64 D, .int .i64 S]] W fun e w' => e = .returned (.int .i64 K) ∧ Below W.heap.size W w') ∧ (∀ W, Calls Try.prog 16 #[.agg #[.int .i64 D, .int .i64 S]] W fun e w' => e = .returned (.int .i64 K) ∧ Below W.heap.size W w') ∧ ChkQ D S K := by
  have h1 := fun W => chk_own D S W
  have h2 := fun W => rchk_any D S W
  unfold lyV at h1 h2
  have hK : ∃ K, ChkQ D S K := by
    by_cases h : Lok D S
    · exact ⟨0, Or.inl ⟨rfl, h⟩⟩
    · exact ⟨2, Or.inr ⟨rfl, h⟩⟩
  obtain ⟨K, hK⟩ := hK
  refine ⟨K, fun W => (h1 W).mono ?_, fun W => (h2 W).mono ?_, hK⟩
  · rintro e w' ⟨k, hk, rfl, hb⟩
    rw [hk.only hK]
    exact ⟨rfl, hb⟩
  · rintro e w' ⟨k, hk, rfl, hb⟩
    rw [hk.only hK]
    exact ⟨rfl, hb⟩
set_option maxHeartbeats 8000000 in
theorem walk_positions (D S x s r o : Int) (w : World) (hx : F64 x) (hs : F64 s) :
    Calls Try.prog 3 #[lyV D S, .int .i64 x, psV s r o] w fun e w' => e = .returned (.bool true) ∧ Below w.heap.size w w' := by
  have cA := fun W => alive_any W
  have c1 := fun W => loc_own D S x hx W
  have c2 := fun W => rloc_any D S x hx W
  have c3 := fun W => off_own D S s r o hs W
  have c4 := fun W => roff_any D S s r o W
  obtain ⟨K, c5, c6, -⟩ := chk_two D S
  unfold lyV at c1 c2
  unfold lyV psV at c3 c4
  unfold lyV psV
  obtain ⟨hm, hq0⟩ := lyps_made w D S 23 25 [.int .i64 s, .int .i64 r, .int .i64 o]
  obtain ⟨W0, hW0⟩ : ∃ W0, (w.alloc (.cells #[.int .i64 D, .int .i64 S] 23)).alloc (.cells #[.int .i64 s, .int .i64 r, .int .i64 o] 25) = W0 := ⟨_, rfl⟩
  rw [show (w.alloc (.cells #[.int .i64 D, .int .i64 S] 23)).alloc (.cells [.int .i64 s, .int .i64 r, .int .i64 o].toArray 25) = W0 from hW0] at hm hq0
  have hb0 := hm.bel
  have hz0 := hm.size
  have hl0 := hm.ly
  obtain ⟨A, hA⟩ : ∃ A, w.heap.size = A := ⟨_, rfl⟩
  rw [hA] at hz0 hl0 hq0
  obtain ⟨B, hB⟩ : ∃ B, A + 1 = B := ⟨_, rfl⟩
  rw [hB] at hq0
  have hAB := Lib.hid hB
  replace cA := Lib.hid cA
  replace c1 := Lib.hid c1
  replace c2 := Lib.hid c2
  replace c3 := Lib.hid c3
  replace c4 := Lib.hid c4
  replace c5 := Lib.hid c5
  replace c6 := Lib.hid c6
  replace hb0 := Lib.hid hb0
  replace hz0 := Lib.hid hz0
  replace hl0 := Lib.hid hl0
  replace hq0 := Lib.hid hq0
  clear hm
  go_enter Try.func3, Try.ntmps3
  go_wp2_with fail
  refine (cA.out _).mono ?_
  rintro e w1 ⟨rfl, hb1⟩
  have hb2 := Lib.hid (hb0.out.trans (hb1.mono hb0.out.size))
  have hs1 := hb1.size
  have hl1 := hl0.out.below hb1 (by have := hz0.out; omega)
  have hq1 := hq0.out.below hb1 (by have := hz0.out; have := hAB.out; omega)
  have hz1 : B < w1.heap.size := by have := hz0.out; have := hAB.out; omega
  obtain ⟨x0, x1⟩ := Cells2.of hl1
  replace hl1 := Lib.hid hl1
  replace hq1 := Lib.hid hq1
  replace hz1 := Lib.hid hz1
  clear hW0 hb0 hz0 hl0 hq0 hb1 hs1
  go_wp2_with fail
  refine (c1.out _).mono ?_
  rintro e w2 ⟨s1, r1, o1, k1, hq1', rfl, hb3⟩
  have hl3 := hl1.out.below hb3 (by have := hz1.out; have := hAB.out; omega)
  have hq3 := hq1.out.below hb3 hz1.out
  have hb4 := chain hb2.out hb3
  have hz3 : B < w2.heap.size := by have := hb3.size; have := hz1.out; omega
  have hal := boxed w2 (.cells #[.int .i64 s1, .int .i64 r1, .int .i64 o1] 25)
  have hp1 := vat_alloc w2 25 [.int .i64 s1, .int .i64 r1, .int .i64 o1]
  have hl4 := hl3.below hal (by have := hAB.out; omega)
  have hq4 := hq3.below hal hz3
  have hb5 := chain hb4 hal
  have hz4 : (w2.alloc (.cells #[.int .i64 s1, .int .i64 r1, .int .i64 o1] 25)).heap.size = w2.heap.size + 1 := by simp
  obtain ⟨P1, hP1⟩ : ∃ P, w2.heap.size = P := ⟨_, rfl⟩
  rw [hP1] at hp1 hz3 hz4
  obtain ⟨x0, x1⟩ := Cells2.of hl4
  unfold psV
  replace hl4 := Lib.hid hl4
  replace hq4 := Lib.hid hq4
  replace hb5 := Lib.hid hb5
  replace hz3 := Lib.hid hz3
  replace hz4 := Lib.hid hz4
  replace hp1 := Lib.hid hp1
  replace hq1' := Lib.hid hq1'
  clear hl1 hq1 hz1 hb2 hb3 hl3 hq3 hb4 hal c1
  go_wp2_with fail
  refine (c2.out _).mono ?_
  rintro e w3 ⟨s2, r2, o2, k2, hq2', rfl, hb6⟩
  obtain ⟨rfl, rfl, rfl, rfl⟩ := hq2'.only hq1'.out
  have hl5 := hl4.out.below hb6 (by have := hz4.out; have := hz3.out; have := hAB.out; omega)
  have hq5 := hq4.out.below hb6 (by have := hz4.out; have := hz3.out; omega)
  have hp5 := hp1.out.below hb6 (by have := hz4.out; have e : [Value.int .i64 s2, .int .i64 r2, .int .i64 o2].toArray = #[.int .i64 s2, .int .i64 r2, .int .i64 o2] := rfl; rw [e]; omega)
  have hb7 := chain hb5.out hb6
  have hz5 : P1 < w3.heap.size := by have := hb6.size; have := hz4.out; omega
  have hal := boxed w3 (.cells #[.int .i64 s2, .int .i64 r2, .int .i64 o2] 25)
  have hp2 := vat_alloc w3 25 [.int .i64 s2, .int .i64 r2, .int .i64 o2]
  have hl6 := hl5.below hal (by have := hz3.out; have := hAB.out; omega)
  have hq6 := hq5.below hal (by have := hz3.out; omega)
  have hp6 := hp5.below hal hz5
  have hb8 := chain hb7 hal
  have hz6 : (w3.alloc (.cells #[.int .i64 s2, .int .i64 r2, .int .i64 o2] 25)).heap.size = w3.heap.size + 1 := by simp
  obtain ⟨P2, hP2⟩ : ∃ P, w3.heap.size = P := ⟨_, rfl⟩
  rw [hP2] at hp2 hz5 hz6
  clear x0 x1
  obtain ⟨x0, x1⟩ := Cells2.of hl6
  obtain ⟨y0, y1, y2, _, _, _⟩ := Cells3.of hq6
  unfold psV
  replace hl6 := Lib.hid hl6
  replace hq6 := Lib.hid hq6
  replace hp6 := Lib.hid hp6
  replace hb8 := Lib.hid hb8
  replace hz5 := Lib.hid hz5
  replace hz6 := Lib.hid hz6
  replace hp2 := Lib.hid hp2
  clear hl4 hq4 hb5 hz4 hp1 hq1' hq2' hb6 hl5 hq5 hp5 hb7 hal c2
  go_wp2_with fail
  refine (c3.out _).mono ?_
  rintro e w4 ⟨X, k3, hq3', rfl, hb9⟩
  have hl7 := hl6.out.below hb9 (by have := hz3.out; have := hz5.out; have := hz6.out; have := hAB.out; omega)
  have hq7 := hq6.out.below hb9 (by have := hz3.out; have := hz5.out; have := hz6.out; omega)
  have hp7 := hp6.out.below hb9 (by have := hz5.out; have := hz6.out; omega)
  have hr7 := hp2.out.below hb9 (by have := hz6.out; have e : [Value.int .i64 s2, .int .i64 r2, .int .i64 o2].toArray = #[.int .i64 s2, .int .i64 r2, .int .i64 o2] := rfl; rw [e]; omega)
  have hb10 := chain hb8.out hb9
  have hz7 : P2 < w4.heap.size := by have := hb9.size; have := hz6.out; omega
  clear x0 x1 y0 y1 y2
  obtain ⟨x0, x1⟩ := Cells2.of hl7
  obtain ⟨y0, y1, y2, _, _, _⟩ := Cells3.of hq7
  replace hl7 := Lib.hid hl7
  replace hp7 := Lib.hid hp7
  replace hr7 := Lib.hid hr7
  replace hb10 := Lib.hid hb10
  replace hz7 := Lib.hid hz7
  replace hq3' := Lib.hid hq3'
  clear hl6 hq6 hp6 hb8 hz6 hp2 hb9 hq7 c3
  go_wp2_with fail
  refine (c4.out _).mono ?_
  rintro e w5 ⟨X', k4, hq4', rfl, hb11⟩
  obtain ⟨rfl, rfl⟩ := hq4'.only hq3'.out
  have hl8 := hl7.out.below hb11 (by have := hz3.out; have := hz5.out; have := hz7.out; have := hAB.out; omega)
  have hp8 := hp7.out.below hb11 (by have := hz5.out; have := hz7.out; omega)
  have hr8 := hr7.out.below hb11 hz7.out
  have hb12 := Lib.hid (chain hb10.out hb11)
  have hz8 : P2 < w5.heap.size := by have := hb11.size; have := hz7.out; omega
  clear x0 x1 y0 y1 y2
  have g0 : ∀ W, Below w5.heap.size w5 W → W.cell? ⟨A, 0, none⟩ = some (.int .i64 D) := fun W h => (h.cell (p := ⟨A, 0, none⟩) (by have := hz3.out; have := hz5.out; have := hAB.out; show A < _; omega)).trans (Cells2.of hl8).c0
  have g1 : ∀ W, Below w5.heap.size w5 W → W.cell? ⟨A, 1, none⟩ = some (.int .i64 S) := fun W h => (h.cell (p := ⟨A, 1, none⟩) (by have := hz3.out; have := hz5.out; have := hAB.out; show A < _; omega)).trans (Cells2.of hl8).c1
  have g2 : ∀ W, Below w5.heap.size w5 W → W.cell? ⟨P1, 0, none⟩ = some (.int .i64 s2) := fun W h => (h.cell (p := ⟨P1, 0, none⟩) (by have := hz5.out; show P1 < _; omega)).trans (Cells3.of hp8).c0
  have g3 : ∀ W, Below w5.heap.size w5 W → W.cell? ⟨P1, 1, none⟩ = some (.int .i64 r2) := fun W h => (h.cell (p := ⟨P1, 1, none⟩) (by have := hz5.out; show P1 < _; omega)).trans (Cells3.of hp8).c1
  have g4 : ∀ W, Below w5.heap.size w5 W → W.cell? ⟨P1, 2, none⟩ = some (.int .i64 o2) := fun W h => (h.cell (p := ⟨P1, 2, none⟩) (by have := hz5.out; show P1 < _; omega)).trans (Cells3.of hp8).c2
  have g5 : ∀ W, Below w5.heap.size w5 W → W.cell? ⟨P2, 0, none⟩ = some (.int .i64 s2) := fun W h => (h.cell (p := ⟨P2, 0, none⟩) hz8).trans (Cells3.of hr8).c0
  have g6 : ∀ W, Below w5.heap.size w5 W → W.cell? ⟨P2, 1, none⟩ = some (.int .i64 r2) := fun W h => (h.cell (p := ⟨P2, 1, none⟩) hz8).trans (Cells3.of hr8).c1
  have g7 : ∀ W, Below w5.heap.size w5 W → W.cell? ⟨P2, 2, none⟩ = some (.int .i64 o2) := fun W h => (h.cell (p := ⟨P2, 2, none⟩) hz8).trans (Cells3.of hr8).c2
  have t1 : (K == K) = true := beq_self_eq_true K
  have t2 : (s2 == s2) = true := beq_self_eq_true s2
  have t3 : (r2 == r2) = true := beq_self_eq_true r2
  have t4 : (o2 == o2) = true := beq_self_eq_true o2
  have t5 : (k2 == k2) = true := beq_self_eq_true k2
  have t6 : (X' == X') = true := beq_self_eq_true X'
  have t7 : (k4 == k4) = true := beq_self_eq_true k4
  have keep0 := Below.refl w5.heap.size w5
  have keep1 : ∀ W, Below w5.heap.size w5 W → Below w5.heap.size w5 (World.drew W) := fun W h => chainN h 1
  clear hl7 hp7 hr7 hb10 hz7 hq3' hq4' hb11 hl8 hp8 hr8 hz8 hz3 hz5 c4
  go_wp2_with fail
  go_region_held3 (fun W => Below w5.heap.size w5 W) (first | exact keep0 | exact keep1 _ keep0 | exact chain ‹_› ‹_› | assumption) (first | (go_at_call 15; (with_reducible refine (c5.out _).mono ?_); rintro e w6 ⟨rfl, hb13⟩) | (go_at_call 16; (with_reducible refine (c6.out _).mono ?_); rintro e w7 ⟨rfl, hb14⟩))
  clear g0 g1 g2 g3 g4 g5 g6 g7
  go_wp2
  go_ret
  exact ⟨rfl, chain hb12.out (chain (chain (chainN (Below.refl _ _) 1) hb13) hb14)⟩
/-- The same at what the reading says. -/
theorem row_positions (D S : Int) (x s r o : Int) (w : World) (hD : (Lit.int .i64 D).wf = true) (hS : (Lit.int .i64 S).wf = true) (hx : (Lit.int .i64 x).wf = true) (hs : (Lit.int .i64 s).wf = true) (hr : (Lit.int .i64 r).wf = true) (ho : (Lit.int .i64 o).wf = true) : Calls Try.prog 3 #[lyV D S, .int .i64 x, psV s r o] w fun e w' => e = .returned (.bool true) ∧ Below w.heap.size w w' := by
  exact walk_positions D S x s r o w ((Lit.wf_int_iff .i64 _).1 hx) ((Lit.wf_int_iff .i64 _).1 hs)
end Go.Proofs.Ytcfoclmkhippoaa.L16
