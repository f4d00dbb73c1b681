/- The walk of the law LayoutInverse. -/
import Derived.Test.YtcfoclmkhippoaaL16Open
import Derived.Test.YtcfoclmkhippoaaL16Lp
namespace Go.Proofs.Ytcfoclmkhippoaa.L16
set_option maxRecDepth 100000
open Go.RowKit Mem
open Go.Proofs.Ytcfoclmkhippoaa.G5 Go.Proofs.Ytcfoclmkhippoaa.G7 Go.Proofs.Ytcfoclmkhippoaa.E15
set_option linter.unusedVariables false
set_option linter.unusedSimpArgs false

theorem loc_off {D S x s r o x' k : Int} (h : LocQ D S x s r o 0) (h' : OffQ D S s r o x' k) : x' = x ∧ k = 0 := by
  obtain ⟨h1, h2, h3, h4⟩ := h.yes rfl
  exact h'.only ⟨Or.inl rfl, fun _ => ⟨h1, h4, h3⟩, fun h => absurd h (by decide)⟩
theorem off_loc {D S x s r o s' r' o' k : Int} (h : OffQ D S s r o x 0) (h' : LocQ D S x s' r' o' k) : s' = s ∧ r' = r ∧ o' = o ∧ k = 0 := by
  obtain ⟨h1, h2, h3⟩ := h.yes rfl
  exact h'.only ⟨Or.inl rfl, fun _ => ⟨h1, h2.nonneg, h3, h2⟩, fun h => absurd h (by decide)⟩
theorem off_less {D S x s r o y k : Int} (h : OffQ D S s r o x 0) (ho : o ≠ 0) (h' : OffQ D S s r (o - 1) y k) : y = x - 1 ∧ k = 0 := by
  obtain ⟨h1, h2, h3⟩ := h.yes rfl
  have a := h2.o0
  have b := h2.o1
  have e := h2.eq
  exact h'.only ⟨Or.inl rfl, fun _ => ⟨h1, ⟨h2.s0, h2.r0, h2.r1, by omega, by omega, by omega⟩, by omega⟩, fun h => absurd h (by decide)⟩
theorem pos_small {D s r o x : Int} (h : PosQ D s r o x) (h1 : x ≤ 2147483647) : s ≤ 2147483647 := by
  have h0 := h.s0; have h2 := h.r0; have h3 := h.r1; have h4 := h.o0; have h5 := h.eq
  have h6 : s * 1 ≤ s * D := Int.mul_le_mul_of_nonneg_left (by omega) h0
  omega
set_option maxHeartbeats 8000000 in
/-- From the second half on. -/
theorem walk_inverse (D S x s r o : Int) (w : World) (hx : F64 x) (hs : F64 s) :
    Calls Try.prog 4 #[lyV D S, .int .i64 x, psV s r o] w fun e w' => e = .returned (.bool true) ∧ Below w.heap.size w w' := by
  have cA := fun W => alive_any W
  have c1 := fun x (hx : F64 x) W => loc_own D S x hx W
  have c2 := fun s r o (hs : F64 s) W => off_own D S s r o hs W
  unfold lyV at c1
  unfold lyV psV at c2
  unfold lyV psV
  have hP := LP.new w D S s r o 23 25
  obtain ⟨W0, hW0⟩ : ∃ W0, (w.alloc (.cells #[.int .i64 D, .int .i64 S] 23)).alloc (.cells #[.int .i64 s, .int .i64 r, .int .i64 o] 25) = W0 := ⟨_, rfl⟩
  rw [hW0] at hP
  obtain ⟨A, hA⟩ : ∃ A, w.heap.size = A := ⟨_, rfl⟩
  obtain ⟨B, hB⟩ : ∃ B, A + 1 = B := ⟨_, rfl⟩
  rw [hA, hB] at hP
  replace cA := Lib.hid cA
  replace c1 := Lib.hid c1
  replace c2 := Lib.hid c2
  replace hP := Lib.hid hP
  have hAh := Lib.hid hA
  go_enter Try.func4, Try.ntmps4
  go_wp2_with fail
  refine (cA.out _).mono ?_
  rintro e w1 ⟨rfl, hb1⟩
  replace hP := Lib.hid (hP.out.next hb1)
  clear hW0 hb1
  have x0 := hP.out.lb.c0
  have x1 := hP.out.lb.c1
  go_wp2_with fail
  refine (c1.out x hx _).mono ?_
  rintro e w2 ⟨s1, r1, o1, k1, hq, rfl, hb2⟩
  have hP2 := hP.out.next hb2
  have hal := boxed w2 (.cells #[.int .i64 s1, .int .i64 r1, .int .i64 o1] 25)
  have hc := pos_new w2 s1 r1 o1 25
  have hP3 := hP2.next hal
  have hz3 : w2.heap.size < (w2.alloc (.cells #[.int .i64 s1, .int .i64 r1, .int .i64 o1] 25)).heap.size := by simp
  obtain ⟨Q, hQ⟩ : ∃ Q, w2.heap.size = Q := ⟨_, rfl⟩
  clear x0 x1 hP hb2 hP2 hal
  unfold psV
  replace hP3 := Lib.hid hP3
  have hcw : ∀ w3 : World, Below (w2.alloc (.cells #[.int .i64 s1, .int .i64 r1, .int .i64 o1] 25)).heap.size (w2.alloc (.cells #[.int .i64 s1, .int .i64 r1, .int .i64 o1] 25)) w3 → Cells3 w3 Q (.int .i64 s1) (.int .i64 r1) (.int .i64 o1) := fun w3 h => Cells3.of ((show VAt _ Q [.int .i64 s1, .int .i64 r1, .int .i64 o1] by rw [← hQ]; exact vat_alloc w2 _ _).below h (by rw [← hQ]; exact hz3))
  rcases hq.err with rfl | rfl
  focus
    obtain ⟨h1, h2, h3, hpos⟩ := hq.yes rfl
    have hs1 : F64 s1 := ⟨by have := hpos.s0; omega, by have := pos_small hpos h3; omega⟩
    have cO := c2.out s1 r1 o1 hs1
    have hnx := Lib.hid (fun X k (h : OffQ D S s1 r1 o1 X k) => loc_off hq h)
    have hposh := Lib.hid hpos
    obtain ⟨f0, f1, f2, _, _, _⟩ := hc
    rw [hQ] at f0 f1 f2
    have x0 := hP3.out.lb.c0
    have x1 := hP3.out.lb.c1
    replace cO := Lib.hid cO
    replace hcw := Lib.hid hcw
    clear hz3 hq h1 h2 h3 hpos hs1
    go_wp2_with fail
    refine (cO.out _).mono ?_
    rintro e w3 ⟨X, k, hX, rfl, hb3⟩
    obtain ⟨rfl, rfl⟩ := hnx.out X k hX
    obtain ⟨e0, e1, e2, _, _, _⟩ := hcw.out _ hb3
    replace hP3 := Lib.hid (hP3.out.next hb3)
    clear f0 f1 f2 x0 x1 hnx hb3 hcw cO
    have x0 := hP3.out.lb.c0
    have x1 := hP3.out.lb.c1
    obtain ⟨y0, y1, y2, _, _, _⟩ := hP3.out.cells
    have t1 : (X != X) = false := by simp
    have t2 : decide (r1 < 0) = false := decide_eq_false (by have := hposh.out.r0; omega)
    have t3 : decide (D ≤ r1) = false := decide_eq_false (by have := hposh.out.r1; omega)
    have t4 : decide (o1 < 0) = false := decide_eq_false (by have := hposh.out.o0; omega)
    have t5 : decide (28 ≤ o1) = false := decide_eq_false (by have := hposh.out.o1; omega)
    go_wp2_with fail
  rotate_left
  focus
    have x0 := hP3.out.lb.c0
    have x1 := hP3.out.lb.c1
    obtain ⟨y0, y1, y2, _, _, _⟩ := hP3.out.cells
    obtain ⟨w3, hw3⟩ : ∃ w3, w2.alloc (.cells #[.int .i64 s1, .int .i64 r1, .int .i64 o1] 25) = w3 := ⟨_, rfl⟩
    rw [hw3] at hP3 x0 x1 y0 y1 y2
    clear hz3 hq hc hcw
    go_wp2_with fail
    clear hw3
  all_goals
    refine (c2.out s r o hs _).mono ?_
    rintro e w4 ⟨X4, k4, hq4, rfl, hb4⟩
    replace hP3 := Lib.hid (hP3.out.next hb4)
    clear x0 x1 y0 y1 y2 hb4
    have x0 := hP3.out.lb.c0
    have x1 := hP3.out.lb.c1
    rcases hq4.err with rfl | rfl
    · obtain ⟨h1, h2, h3⟩ := hq4.yes rfl
      have hX4 : F64 X4 := ⟨by have := h2.nonneg; omega, by omega⟩
      have hnx4 := Lib.hid (fun s' r' o' k (h : LocQ D S X4 s' r' o' k) => off_loc hq4 h)
      have hless := Lib.hid (fun (ho : o ≠ 0) y k (h : OffQ D S s r (o - 1) y k) => off_less hq4 ho h)
      have hX40 : 0 ≤ X4 := h2.nonneg
      have ho0 : 0 ≤ o := h2.o0
      have ho28 : o < 28 := h2.o1
      have cL := Lib.hid (c1.out X4 hX4)
      clear hq4 h1 h2 hX4
      go_wp2_with fail
      refine (cL.out _).mono ?_
      rintro e w5 ⟨s5, r5, o5, k5, hq5, rfl, hb5⟩
      obtain ⟨rfl, rfl, rfl, rfl⟩ := hnx4.out _ _ _ _ hq5
      have hP5 := hP3.out.next hb5
      have hal := boxed w5 (.cells #[.int .i64 s5, .int .i64 r5, .int .i64 o5] 25)
      obtain ⟨z0, z1, z2, _, _, _⟩ := pos_new w5 s5 r5 o5 25
      have hP6 := hP5.next hal
      obtain ⟨y0, y1, y2, v0, v1, v2⟩ := hP6.cells
      unfold psV
      have t1 : (s5 == s5) = true := beq_self_eq_true _
      have t2 : (r5 == r5) = true := beq_self_eq_true _
      have t3 : (o5 == o5) = true := beq_self_eq_true _
      replace hP6 := Lib.hid hP6
      clear x0 x1 hq5 hb5 hP5 hal hnx4 cL hP3
      by_cases ho : o5 = 0
      · subst ho
        have hfin := Lib.hid hP6.out.lb.bel
        clear hless hP6
        go_wp2
        go_ret
        exact ⟨rfl, hfin.out⟩
      · have t4 : (o5 == 0) = false := beq_eq_false_iff_ne.2 ho
        have hless := Lib.hid (hless.out ho)
        obtain ⟨o', ho'⟩ : ∃ o', o5 - 1 = o' := ⟨_, rfl⟩
        have o'0 : 0 ≤ o' := by omega
        have o'28 : o' < 28 := by omega
        have hP7 := hP6.out.less o'
        obtain ⟨q0, q1, q2, _, _, _⟩ := hP7.cells
        have x0 := hP7.lb.c0
        have x1 := hP7.lb.c1
        have cM := Lib.hid (c2.out s5 r5 o' hs)
        replace hP7 := Lib.hid hP7
        clear hP6 ho
        go_wp2_with fail
        refine (cM.out _).mono ?_
        rintro e w6 ⟨Y, k6, hq6, rfl, hb6⟩
        obtain ⟨rfl, rfl⟩ := hless.out Y k6 (by rw [ho']; exact hq6)
        have hfin := Lib.hid (hP7.out.next hb6).lb.bel
        have t5 : (X4 - 1 == X4 - 1) = true := beq_self_eq_true _
        have hX41 : X4 ≤ 2147483647 := h3
        clear hq6 hb6 hP7 hless cM q0 q1 q2 x0 x1 ho'
        go_wp2
        go_ret
        exact ⟨rfl, hfin.out⟩
    · obtain ⟨-, rfl⟩ := hq4.no rfl
      have hfin := Lib.hid hP3.out.lb.bel
      clear hq4
      go_wp2
      go_ret
      exact ⟨rfl, hfin.out⟩
/-- The same at what the reading says. -/
theorem row_inverse (D S : Int) (x s r o : Int) (w : World) (hD : (Lit.int .i64 D).wf = true) (hS : (Lit.int .i64 S).wf = true) (hx : (Lit.int .i64 x).wf = true) (hs : (Lit.int .i64 s).wf = true) (hr : (Lit.int .i64 r).wf = true) (ho : (Lit.int .i64 o).wf = true) : Calls Try.prog 4 #[lyV D S, .int .i64 x, psV s r o] w fun e w' => e = .returned (.bool true) ∧ Below w.heap.size w w' := by
  exact walk_inverse D S x s r o w ((Lit.wf_int_iff .i64 _).1 hx) ((Lit.wf_int_iff .i64 _).1 hs)
end Go.Proofs.Ytcfoclmkhippoaa.L16
