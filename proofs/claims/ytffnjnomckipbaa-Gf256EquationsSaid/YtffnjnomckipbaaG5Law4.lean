/- The walk of the law Gf256Equations, under the package's contracts. -/
import Derived.Test.YtffnjnomckipbaaG5Law2
import Derived.Laws.OwnMore
namespace Go.Proofs.Ytffnjnomckipbaa.G5
open Go.RowKit Mem
set_option linter.unusedVariables false


set_option maxRecDepth 100000 in
set_option maxHeartbeats 4000000 in
theorem walk_equations (D : Dev) (a b c : Int) (w : World) (ha : (Lit.int .u8 a).wf = true) (hb : (Lit.int .u8 b).wf = true) (hc : (Lit.int .u8 c).wf = true) :
    Calls Try.prog 10 #[.int .u8 a, .int .u8 b, .int .u8 c] w fun e w' => e = .returned (.bool true) ∧ Below w.heap.size w w' := by
  obtain ⟨x, rfl⟩ := u8_el ha
  obtain ⟨y, rfl⟩ := u8_el hb
  obtain ⟨z, rfl⟩ := u8_el hc
  have c0 := Lib.hid (alive_any D)
  have d1 := D.mul z z
  have d2 := D.add x y
  have d3 := D.mul (x ^^^ y) z
  have d4 := D.add (tms z z) (tms (x ^^^ y) z)
  have d5 := D.mul x y
  have d6 := D.add (tms z z ^^^ tms (x ^^^ y) z) (tms x y)
  have fZ : ((tms z z ^^^ tms (x ^^^ y) z ^^^ tms x y) == 0#8) = ((z == x) || (z == y)) := by
    rw [Bool.eq_iff_iff]
    simpa using quad_zero x y z
  rw [← z_is] at fZ
  obtain ⟨Z, hZ⟩ : ∃ Z, tms z z ^^^ tms (x ^^^ y) z ^^^ tms x y = Z := ⟨_, rfl⟩
  rw [hZ] at d6 fZ
  clear hZ
  obtain ⟨V, hV⟩ : ∃ V, tms z z ^^^ tms (x ^^^ y) z = V := ⟨_, rfl⟩
  rw [hV] at d4 d6
  clear hV
  obtain ⟨U, hU⟩ : ∃ U, tms z z = U := ⟨_, rfl⟩
  rw [hU] at d1 d4
  clear hU
  obtain ⟨T, hT⟩ : ∃ T, tms (x ^^^ y) z = T := ⟨_, rfl⟩
  rw [hT] at d3 d4
  clear hT
  obtain ⟨S, hS⟩ : ∃ S, x ^^^ y = S := ⟨_, rfl⟩
  rw [hS] at d2 d3
  clear hS
  obtain ⟨M, hM⟩ : ∃ M, tms x y = M := ⟨_, rfl⟩
  rw [hM] at d5 d6
  clear hM
  have d1 := Lib.hid d1
  have d2 := Lib.hid d2
  have d3 := Lib.hid d3
  have d4 := Lib.hid d4
  have d5 := Lib.hid d5
  have d6 := Lib.hid d6
  have e1 := bv_eq1 z x
  have e2 := bv_eq1 z y
  obtain ⟨B, hB⟩ : ∃ B, (z == x) = B := ⟨_, rfl⟩
  obtain ⟨C, hC⟩ : ∃ C, (z == y) = C := ⟨_, rfl⟩
  rw [hB] at e1 fZ
  rw [hC] at e2 fZ
  clear hB hC
  rcases hx : (x == 0#8) with _ | _
  · have hx0 : ((x.toNat : Int) == 0) = false := by rw [z_is]; exact hx
    have hx1 : ((x.toNat : Int) != 0) = true := by rw [nz_is, hx]; rfl
    have c1 := D.div y x
    have c2 := D.mul x (dv y x)
    have c3 := D.add y y
    have c4 := D.mul x z
    have c5 := D.add (tms x z) y
    rw [tms_dv y (ne_of hx)] at c2
    rw [BitVec.xor_self, show bv 0#8 = .int .u8 0 from rfl] at c3
    rw [hx] at c1
    have fQ : ((tms x z ^^^ y) == 0#8) = (z == dv y x) := by
      rw [Bool.eq_iff_iff]
      simpa using lin_one y z (ne_of hx)
    rw [← z_is, ← bv_eq1] at fQ
    obtain ⟨Q, hQ⟩ : ∃ Q, tms x z ^^^ y = Q := ⟨_, rfl⟩
    rw [hQ] at c5 fQ
    clear hQ
    obtain ⟨Y, hY⟩ : ∃ Y, dv y x = Y := ⟨_, rfl⟩
    rw [hY] at c1 c2 fQ
    clear hY
    obtain ⟨P, hP⟩ : ∃ P, tms x z = P := ⟨_, rfl⟩
    rw [hP] at c4 c5
    clear hP
    obtain ⟨E, hE⟩ : ∃ E, ((z.toNat : Int) == (Y.toNat : Int)) = E := ⟨_, rfl⟩
    rw [hE] at fQ
    have c1 := Lib.hid c1
    have c2 := Lib.hid c2
    have c3 := Lib.hid c3
    have c4 := Lib.hid c4
    have c5 := Lib.hid c5
    clear hx
    go_enter Try.func10, Try.ntmps10
    go_wp2_with fail
    refine (c0.out _).mono ?_
    rintro e w1 ⟨rfl, b0⟩
    go_wp2_with fail
    refine (c1.out _).mono ?_
    rintro e w1 ⟨rfl, b1⟩
    go_wp2_with fail
    refine (c2.out _).mono ?_
    rintro e w1 ⟨rfl, rfl⟩
    go_wp2_with fail
    refine (c3.out _).mono ?_
    rintro e w1 ⟨rfl, rfl⟩
    go_wp2_with fail
    refine (c4.out _).mono ?_
    rintro e w1 ⟨rfl, rfl⟩
    go_wp2_with fail
    refine (c5.out _).mono ?_
    rintro e w1 ⟨rfl, rfl⟩
    go_wp2_with fail
    refine (d1.out _).mono ?_
    rintro e w1 ⟨rfl, rfl⟩
    go_wp2_with fail
    refine (d2.out _).mono ?_
    rintro e w1 ⟨rfl, rfl⟩
    go_wp2_with fail
    refine (d3.out _).mono ?_
    rintro e w1 ⟨rfl, rfl⟩
    go_wp2_with fail
    refine (d4.out _).mono ?_
    rintro e w1 ⟨rfl, rfl⟩
    go_wp2_with fail
    refine (d5.out _).mono ?_
    rintro e w1 ⟨rfl, rfl⟩
    go_wp2_with fail
    refine (d6.out _).mono ?_
    rintro e w1 ⟨rfl, rfl⟩
    rcases B with _ | _
    all_goals
      simp only [Bool.true_or, Bool.false_or] at fZ
      go_wp2
      go_ret
      exact ⟨rfl, chain b0 b1⟩
  · have hx0 : ((x.toNat : Int) == 0) = true := by rw [z_is]; exact hx
    have hx1 : ((x.toNat : Int) != 0) = false := by rw [nz_is, hx]; rfl
    clear hx
    go_enter Try.func10, Try.ntmps10
    go_wp2_with fail
    refine (c0.out _).mono ?_
    rintro e w1 ⟨rfl, b0⟩
    go_wp2_with fail
    refine (d1.out _).mono ?_
    rintro e w1 ⟨rfl, rfl⟩
    go_wp2_with fail
    refine (d2.out _).mono ?_
    rintro e w1 ⟨rfl, rfl⟩
    go_wp2_with fail
    refine (d3.out _).mono ?_
    rintro e w1 ⟨rfl, rfl⟩
    go_wp2_with fail
    refine (d4.out _).mono ?_
    rintro e w1 ⟨rfl, rfl⟩
    go_wp2_with fail
    refine (d5.out _).mono ?_
    rintro e w1 ⟨rfl, rfl⟩
    go_wp2_with fail
    refine (d6.out _).mono ?_
    rintro e w1 ⟨rfl, rfl⟩
    rcases B with _ | _
    all_goals
      simp only [Bool.true_or, Bool.false_or] at fZ
      go_wp2
      go_ret
      exact ⟨rfl, b0⟩
end Go.Proofs.Ytffnjnomckipbaa.G5
