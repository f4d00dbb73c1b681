/- The walk of the law Gf256Field, under the package's contracts. -/
import Derived.Test.YtffnjnomckipbaaG5Law2
import Derived.Laws.OwnMore
namespace Go.Proofs.Ytffnjnomckipbaa.G5
open Go.RowKit Mem
set_option linter.unusedVariables false


set_option maxRecDepth 100000 in
set_option maxHeartbeats 8000000 in
theorem walk_field (D : Dev) (a b c : Int) (w : World) (ha : (Lit.int .u8 a).wf = true) (hb : (Lit.int .u8 b).wf = true) (hc : (Lit.int .u8 c).wf = true) :
    Calls Try.prog 5 #[.int .u8 a, .int .u8 b, .int .u8 c] w fun e w' => e = .returned (.bool true) ∧ Below w.heap.size w w' := by
  obtain ⟨x, rfl⟩ := u8_el ha
  obtain ⟨y, rfl⟩ := u8_el hb
  obtain ⟨z, rfl⟩ := u8_el hc
  have c0 := Lib.hid (alive_any D)
  have a1 := fun W => D.add x y W
  have a2 := fun W => D.add y x W
  rw [BitVec.xor_comm y x] at a2
  have m1 := fun W => D.mul x y W
  have m2 := fun W => D.mul y x W
  rw [tms_comm y x] at m2
  have a3 := fun W => D.add (x ^^^ y) z W
  have a4 := fun W => D.add y z W
  have a5 := fun W => D.add x (y ^^^ z) W
  rw [← BitVec.xor_assoc] at a5
  have m3 := fun W => D.mul (tms x y) z W
  have m4 := fun W => D.mul y z W
  have m5 := fun W => D.mul x (tms y z) W
  rw [← tms_assoc] at m5
  have m6 := fun W => D.mul x (y ^^^ z) W
  rw [tms_add_left] at m6
  have m7 := fun W => D.mul x z W
  have a6 := fun W => D.add (tms x y) (tms x z) W
  have a7 := fun W => D.add x 0#8 W
  rw [BitVec.xor_zero] at a7
  have m8 := fun W => D.mul x 1#8 W
  rw [show tms x 1#8 = x from tms_one x] at m8
  have m9 := fun W => D.mul x 0#8 W
  rw [show tms x 0#8 = 0#8 from tms_zero x] at m9
  have a8 := fun W => D.add x x W
  rw [BitVec.xor_self] at a8
  rw [show bv 0#8 = .int .u8 0 from rfl] at a7 m9 a8
  rw [show bv 1#8 = .int .u8 1 from rfl] at m8
  have i1 := D.inv x
  have i2 := fun (h : x ≠ 0) W => D.mul x (iv x) W
  obtain ⟨AA, hAA⟩ : ∃ AA, x ^^^ y ^^^ z = AA := ⟨_, rfl⟩
  rw [hAA] at a3 a5
  clear hAA
  obtain ⟨MM, hMM⟩ : ∃ MM, tms (tms x y) z = MM := ⟨_, rfl⟩
  rw [hMM] at m3 m5
  clear hMM
  obtain ⟨DD, hDD⟩ : ∃ DD, tms x y ^^^ tms x z = DD := ⟨_, rfl⟩
  rw [hDD] at m6 a6
  clear hDD
  obtain ⟨S, hS⟩ : ∃ S, x ^^^ y = S := ⟨_, rfl⟩
  rw [hS] at a1 a2 a3
  clear hS
  obtain ⟨T, hT⟩ : ∃ T, y ^^^ z = T := ⟨_, rfl⟩
  rw [hT] at a4 a5 m6
  clear hT
  obtain ⟨P, hP⟩ : ∃ P, tms x y = P := ⟨_, rfl⟩
  rw [hP] at m1 m2 m3 a6
  clear hP
  obtain ⟨Q, hQ⟩ : ∃ Q, tms y z = Q := ⟨_, rfl⟩
  rw [hQ] at m4 m5
  clear hQ
  obtain ⟨U, hU⟩ : ∃ U, tms x z = U := ⟨_, rfl⟩
  rw [hU] at m7 a6
  clear hU
  have a1 := Lib.hid a1
  have a2 := Lib.hid a2
  have m1 := Lib.hid m1
  have m2 := Lib.hid m2
  have a3 := Lib.hid a3
  have a4 := Lib.hid a4
  have a5 := Lib.hid a5
  have m3 := Lib.hid m3
  have m4 := Lib.hid m4
  have m5 := Lib.hid m5
  have m6 := Lib.hid m6
  have m7 := Lib.hid m7
  have a6 := Lib.hid a6
  have a7 := Lib.hid a7
  have m8 := Lib.hid m8
  have m9 := Lib.hid m9
  have a8 := Lib.hid a8
  go_enter Try.func5, Try.ntmps5
  go_wp2_with fail
  refine (c0.out _).mono ?_
  rintro e w1 ⟨rfl, b0⟩
  go_wp2_with fail
  refine (a1.out _).mono ?_
  rintro e w1 ⟨rfl, rfl⟩
  go_wp2_with fail
  refine (a2.out _).mono ?_
  rintro e w1 ⟨rfl, rfl⟩
  go_wp2_with fail
  refine (m1.out _).mono ?_
  rintro e w1 ⟨rfl, rfl⟩
  go_wp2_with fail
  refine (m2.out _).mono ?_
  rintro e w1 ⟨rfl, rfl⟩
  go_wp2_with fail
  refine (a1.out _).mono ?_
  rintro e w1 ⟨rfl, rfl⟩
  go_wp2_with fail
  refine (a3.out _).mono ?_
  rintro e w1 ⟨rfl, rfl⟩
  go_wp2_with fail
  refine (a4.out _).mono ?_
  rintro e w1 ⟨rfl, rfl⟩
  go_wp2_with fail
  refine (a5.out _).mono ?_
  rintro e w1 ⟨rfl, rfl⟩
  go_wp2_with fail
  refine (m1.out _).mono ?_
  rintro e w1 ⟨rfl, rfl⟩
  go_wp2_with fail
  refine (m3.out _).mono ?_
  rintro e w1 ⟨rfl, rfl⟩
  go_wp2_with fail
  refine (m4.out _).mono ?_
  rintro e w1 ⟨rfl, rfl⟩
  go_wp2_with fail
  refine (m5.out _).mono ?_
  rintro e w1 ⟨rfl, rfl⟩
  go_wp2_with fail
  refine (a4.out _).mono ?_
  rintro e w1 ⟨rfl, rfl⟩
  go_wp2_with fail
  refine (m6.out _).mono ?_
  rintro e w1 ⟨rfl, rfl⟩
  go_wp2_with fail
  refine (m1.out _).mono ?_
  rintro e w1 ⟨rfl, rfl⟩
  go_wp2_with fail
  refine (m7.out _).mono ?_
  rintro e w1 ⟨rfl, rfl⟩
  go_wp2_with fail
  refine (a6.out _).mono ?_
  rintro e w1 ⟨rfl, rfl⟩
  go_wp2_with fail
  refine (a7.out _).mono ?_
  rintro e w1 ⟨rfl, rfl⟩
  go_wp2_with fail
  refine (m8.out _).mono ?_
  rintro e w1 ⟨rfl, rfl⟩
  go_wp2_with fail
  refine (m9.out _).mono ?_
  rintro e w1 ⟨rfl, rfl⟩
  go_wp2_with fail
  refine (a8.out _).mono ?_
  rintro e w1 ⟨rfl, rfl⟩
  rcases hx : (x == 0#8) with _ | _
  · have hx0 : ((x.toNat : Int) == 0) = false := by rw [z_is]; exact hx
    have hx1 : ((x.toNat : Int) != 0) = true := by rw [nz_is, hx]; rfl
    have i3 := fun W => i2 (ne_of hx) W
    rw [tms_iv (ne_of hx)] at i3
    have i3 : ∀ W, Calls Try.prog 18 #[bv x, bv (iv x)] W fun e w' => e = .returned (.int .u8 1) ∧ W = w' := i3
    rw [hx] at i1
    obtain ⟨I, hI⟩ : ∃ I, iv x = I := ⟨_, rfl⟩
    rw [hI] at i1 i3
    clear hI
    have i1 := Lib.hid i1
    have i3 := Lib.hid i3
    clear hx i2
    go_wp2_with fail
    refine (i1.out _).mono ?_
    rintro e w1 ⟨rfl, b1⟩
    go_wp2_with fail
    refine (i3.out _).mono ?_
    rintro e w1 ⟨rfl, rfl⟩
    go_wp2
    go_ret
    exact ⟨rfl, chain b0 b1⟩
  · have hx0 : ((x.toNat : Int) == 0) = true := by rw [z_is]; exact hx
    have hx1 : ((x.toNat : Int) != 0) = false := by rw [nz_is, hx]; rfl
    rw [hx, show iv x = 0#8 from (by rw [eq_of hx]; rfl), show bv 0#8 = .int .u8 0 from rfl] at i1
    have i1 := Lib.hid i1
    clear hx i2
    go_wp2_with fail
    refine (i1.out _).mono ?_
    rintro e w1 ⟨rfl, b1⟩
    go_wp2
    go_ret
    exact ⟨rfl, chain b0 b1⟩
end Go.Proofs.Ytffnjnomckipbaa.G5
