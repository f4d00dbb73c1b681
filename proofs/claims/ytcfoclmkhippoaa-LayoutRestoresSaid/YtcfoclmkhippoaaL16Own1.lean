/- The contracts of the landed Check, Locate and Offset of layer 16. -/
import Derived.Test.YtcfoclmkhippoaaL16Mem
namespace Go.Proofs.Ytcfoclmkhippoaa.L16
set_option maxRecDepth 100000
open Go.RowKit Mem
set_option linter.unusedVariables false
set_option linter.unusedSimpArgs false

set_option maxHeartbeats 4000000 in
theorem chk_own (D S : Int) (w : World) : Calls Try.prog 15 #[lyV D S] w (ChkP D S w) := by
  have hb := Lib.hid (boxed w (.cells #[.int .i64 D, .int .i64 S] 23))
  have bad := fun (h : ¬ Lok D S) => ChkP.bad h hb.out
  have good := fun (h : Lok D S) => ChkP.good h hb.out
  obtain ⟨P, hP⟩ : ∃ P, ChkP D S w = P := ⟨_, rfl⟩
  rw [hP] at bad good ⊢
  clear hP
  unfold lyV
  show Calls _ _ _ _ (fun e w' => P e w')
  by_cases d1 : D < 1
  · have fin := Lib.hid (bad (fun h => by have := h.1; omega))
    have t1 : decide (D < 1) = true := decide_eq_true d1
    clear bad good
    go_enter Try.func15, Try.ntmps15
    go_wp2
    first | go_ret | skip
    exact fin.out
  have t1 : decide (D < 1) = false := decide_eq_false d1
  by_cases d2 : 8 < D
  · have fin := Lib.hid (bad (fun h => by have := h.2.1; omega))
    have t2 : decide (8 < D) = true := decide_eq_true d2
    clear bad good
    go_enter Try.func15, Try.ntmps15
    go_wp2
    first | go_ret | skip
    exact fin.out
  have t2 : decide (8 < D) = false := decide_eq_false d2
  by_cases d3 : S < 0
  · have fin := Lib.hid (bad (fun h => by have := h.2.2.1; omega))
    have t3 : decide (S < 0) = true := decide_eq_true d3
    clear bad good
    go_enter Try.func15, Try.ntmps15
    go_wp2
    first | go_ret | skip
    exact fin.out
  have t3 : decide (S < 0) = false := decide_eq_false d3
  by_cases d4 : 7 < S
  · have fin := Lib.hid (bad (fun h => by have := h.2.2.2; omega))
    have t4 : decide (7 < S) = true := decide_eq_true d4
    clear bad good
    go_enter Try.func15, Try.ntmps15
    go_wp2
    first | go_ret | skip
    exact fin.out
  have t4 : decide (7 < S) = false := decide_eq_false d4
  have fin := Lib.hid (good ⟨by omega, by omega, by omega, by omega⟩)
  clear bad good
  go_enter Try.func15, Try.ntmps15
  go_wp2
  first | go_ret | skip
  exact fin.out
set_option maxHeartbeats 4000000 in
theorem loc_own (D S x : Int) (hx : F64 x) (w : World) : Calls Try.prog 11 #[lyV D S, .int .i64 x] w (LocP D S x w) := by
  have cC := fun W => chk_own D S W
  have bad := fun (h : ¬ (Lok D S ∧ 0 ≤ x ∧ x ≤ 2147483647)) (w' : World) (hb : Below w.heap.size w w') => LocP.bad (x := x) h hb
  have good := fun (h : Lok D S) (h0 : 0 ≤ x) (h1 : x ≤ 2147483647) (s r o : Int) (hp : PosQ D s r o x) (w' : World) (hb : Below w.heap.size w w') => LocP.good h h0 h1 hp hb
  obtain ⟨P, hP⟩ : ∃ P, LocP D S x w = P := ⟨_, rfl⟩
  rw [hP] at bad good ⊢
  obtain ⟨hm, hq0⟩ := lyps_made w D S 23 25 [.int .i64 0, .int .i64 0, .int .i64 0]
  obtain ⟨W0, hW0⟩ : ∃ W0, (w.alloc (.cells #[.int .i64 D, .int .i64 S] 23)).alloc (.cells #[.int .i64 0, .int .i64 0, .int .i64 0] 25) = W0 := ⟨_, rfl⟩
  rw [show (w.alloc (.cells #[.int .i64 D, .int .i64 S] 23)).alloc (.cells [.int .i64 0, .int .i64 0, .int .i64 0].toArray 25) = W0 from hW0] at hm hq0
  have c0 := Cells2.of hm.ly
  unfold lyV at cC ⊢
  replace bad := Lib.hid bad
  replace good := Lib.hid good
  replace cC := Lib.hid cC
  obtain ⟨a0, a1⟩ := c0
  replace hm := Lib.hid hm
  replace hq0 := Lib.hid hq0
  clear hP
  show Calls _ _ _ _ (fun e w' => P e w')
  go_enter Try.func11, Try.ntmps11
  go_wp2_with fail
  refine (cC.out W0).mono ?_
  rintro e w1 ⟨k, hk, rfl, hb1⟩
  clear a0 a1 cC hW0
  have hsz := hm.out.size
  have hb2 := hm.out.bel.trans (hb1.mono (by omega))
  have hl1 := hm.out.ly.below hb1 (by omega)
  have hq1 := hq0.out.below hb1 (by omega)
  obtain ⟨a0, a1⟩ := Cells2.of hl1
  obtain ⟨p0, p1, p2, z0, z1, z2⟩ := Cells3.of hq1
  obtain ⟨B, hB⟩ : ∃ B, w.heap.size + 1 = B := ⟨_, rfl⟩
  rw [hB] at hq1 p0 p1 p2 z0 z1 z2 ⊢
  have hBl : w.heap.size ≤ B := by omega
  replace hb2 := Lib.hid hb2
  replace hq1 := Lib.hid hq1
  replace hBl := Lib.hid hBl
  clear hm hq0 hb1 hl1 hsz hB
  have hbad : ¬ (Lok D S ∧ 0 ≤ x ∧ x ≤ 2147483647) → (((k != 0) = true) ∨ ((k != 0) = false ∧ decide (x < 0) = true) ∨ ((k != 0) = false ∧ decide (x < 0) = false ∧ decide (2147483647 < x) = true)) := fun h => by
    rcases hk with ⟨rfl, hL⟩ | ⟨rfl, hL⟩
    · by_cases h1 : x < 0
      · exact Or.inr (Or.inl ⟨rfl, decide_eq_true h1⟩)
      · exact Or.inr (Or.inr ⟨rfl, decide_eq_false h1, decide_eq_true (by have : ¬ (x ≤ 2147483647) := fun h2 => h ⟨hL, by omega, h2⟩; omega)⟩)
    · exact Or.inl rfl
  by_cases hin : Lok D S ∧ 0 ≤ x ∧ x ≤ 2147483647
  · obtain ⟨hL, x0, x1⟩ := hin
    obtain rfl : k = 0 := by
      rcases hk with h | h
      · exact h.1
      · exact absurd hL h.2
    have hp := PosQ.of (D := D) (x := x) (by have := hL.1; omega) x0
    have d1 : decide (x < 0) = false := decide_eq_false (by omega)
    have d2 : decide (2147483647 < x) = false := decide_eq_false (by omega)
    obtain ⟨q, hq⟩ : ∃ q, x / 28 = q := ⟨_, rfl⟩
    have hqt : x.tdiv 28 = q := by rw [← hq]; exact Int.tdiv_eq_ediv_of_nonneg x0
    have q0 : 0 ≤ q := by omega
    have q1 : q ≤ 2147483647 := by omega
    have D1 : 1 ≤ D := hL.1
    have D8 : D ≤ 8 := hL.2.1
    rw [hq] at hp
    obtain ⟨s, hs⟩ : ∃ s, q / D = s := ⟨_, rfl⟩
    obtain ⟨r, hr⟩ : ∃ r, q % D = r := ⟨_, rfl⟩
    obtain ⟨o, ho⟩ : ∃ o, x % 28 = o := ⟨_, rfl⟩
    have hst : q.tdiv D = s := by rw [← hs]; exact Int.tdiv_eq_ediv_of_nonneg q0
    have hrt : q.tmod D = r := by rw [← hr]; exact Int.tmod_eq_emod_of_nonneg q0
    have hot : x.tmod 28 = o := by rw [← ho]; exact Int.tmod_eq_emod_of_nonneg x0
    rw [hs, hr, ho] at hp
    have s0 := hp.s0
    have s1 : s ≤ 2147483647 := by rw [← hs]; exact Int.le_trans (Int.ediv_le_self _ q0) q1
    have r0 := hp.r0
    have r1 := hp.r1
    have o0 := hp.o0
    have o1 := hp.o1
    have n1 : ¬ D = 0 := by omega
    have n2 : (D == 0) = false := beq_eq_false_iff_ne.2 n1
    have hput := Lib.hid (Cells3.of (put3_at hq1.out (.int .i64 s) (.int .i64 r) (.int .i64 o)))
    have hfin := Lib.hid (good.out hL x0 x1 s r o hp _ (put3_below hb2.out hBl.out (.int .i64 s) (.int .i64 r) (.int .i64 o)).drew)
    obtain ⟨W5, hW5⟩ : ∃ W, put3 B w1 (.int .i64 s) (.int .i64 r) (.int .i64 o) = W := ⟨_, rfl⟩
    rw [hW5] at hput hfin
    unfold put3 at hW5
    clear hL hp bad good hbad hk hb2 hq1 hBl hs hr ho
    go_wp2
    go_region
    go_wp2
    obtain ⟨c0, c1, c2, _, _, _⟩ := hput.out
    refine bodyPost_ret (v := .tuple #[.agg #[.int .i64 s, .int .i64 r, .int .i64 o], .int .i64 0]) ?_ rfl hfin.out
    simp [results, Try.results11, go_sem, c0, c1, c2]
  · have hfin := Lib.hid (bad.out hin _ (put3_below hb2.out hBl.out (.int .i64 0) (.int .i64 0) (.int .i64 0)))
    have hput := Lib.hid (Cells3.of (put3_at hq1.out (.int .i64 0) (.int .i64 0) (.int .i64 0)))
    obtain ⟨W5, hW5⟩ : ∃ W, put3 B w1 (.int .i64 0) (.int .i64 0) (.int .i64 0) = W := ⟨_, rfl⟩
    rw [hW5] at hput hfin
    unfold put3 at hW5
    have hor := hbad hin
    clear hbad hin hk bad good hb2 hq1 hBl
    rcases hor with t1 | ⟨t1, t2⟩ | ⟨t1, t2, t3⟩
    all_goals
      go_wp2
      first | rw [hW5] | skip
      obtain ⟨c0, c1, c2, _, _, _⟩ := hput.out
      refine bodyPost_ret (v := .tuple #[.agg #[.int .i64 0, .int .i64 0, .int .i64 0], .int .i64 2]) ?_ rfl hfin.out
      simp [results, Try.results11, go_sem, c0, c1, c2]
theorem isn_own (n c : Int) (w : World) : Calls Try.prog 28 #[.int .i64 n, .int .i64 c] w fun e w' => e = .returned (.bool (decide (0 ≤ n ∧ n < c))) ∧ w' = w := by
  obtain ⟨b, hb⟩ : ∃ b, decide (0 ≤ n ∧ n < c) = b := ⟨_, rfl⟩
  rw [hb]
  by_cases h0 : 0 ≤ n
  · have t0 : decide (0 ≤ n) = true := decide_eq_true h0
    have t1 : decide (n < c) = b := by rw [← hb]; simp [h0]
    rcases b with _ | _
    all_goals
      clear hb h0
      go_enter Try.func28, Try.ntmps28
      go_wp2
      go_ret
      exact ⟨rfl, rfl⟩
  · have t0 : decide (0 ≤ n) = false := decide_eq_false h0
    have hb2 : b = false := by rw [← hb]; simp [h0]
    subst hb2
    clear hb h0
    go_enter Try.func28, Try.ntmps28
    go_wp2
    go_ret
    exact ⟨rfl, rfl⟩
theorem sby_own (D S : Int) (hD : 1 ≤ D ∧ D ≤ 8) (w : World) : Calls Try.prog 25 #[.agg #[.int .i64 D, .int .i64 S]] w fun e w' => e = .returned (.int .i64 (D * 28)) ∧ Below w.heap.size w w' := by
  have hb := Lib.hid (boxed w (.cells #[.int .i64 D, .int .i64 S] 23))
  obtain ⟨h1, h8⟩ := hD
  obtain ⟨Z, hZ⟩ : ∃ Z, D * 28 = Z := ⟨_, rfl⟩
  rw [hZ]
  have z0 : 0 ≤ Z := by omega
  have z1 : Z ≤ 224 := by omega
  go_enter Try.func25, Try.ntmps25
  go_wp2
  go_ret
  exact ⟨rfl, hb.out⟩
end Go.Proofs.Ytcfoclmkhippoaa.L16
