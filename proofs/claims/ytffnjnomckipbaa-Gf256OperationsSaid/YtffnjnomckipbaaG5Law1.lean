/- The walks of the laws Gf256Operations and Gf256Powers, under the package's contracts. -/
import Derived.Test.YtffnjnomckipbaaG5Dev
import Derived.Laws.OwnMore
namespace Go.Proofs.Ytffnjnomckipbaa.G5
open Go.RowKit Mem
set_option linter.unusedVariables false

set_option maxRecDepth 100000 in
set_option maxHeartbeats 1000000 in
theorem walk_operations (D : Dev) (a b : Int) (w : World) (ha : (Lit.int .u8 a).wf = true) (hb : (Lit.int .u8 b).wf = true) :
    Calls Try.prog 3 #[.int .u8 a, .int .u8 b] w fun e w' => e = .returned (.bool true) ∧ Below w.heap.size w w' := by
  obtain ⟨x, rfl⟩ := u8_el ha
  obtain ⟨y, rfl⟩ := u8_el hb
  have c0 := alive_any D
  have c1 := D.inv x
  have c2 := rinv_one x
  have c3 := D.div x y
  have c4 := rdiv_one x y
  have c5 := D.add x y
  have c6 := radd_any x y
  have c7 := D.mul x y
  have c8 := rmul_any x y
  obtain ⟨I, hI⟩ : ∃ I, iv x = I := ⟨_, rfl⟩
  rw [hI] at c1 c2
  clear hI
  obtain ⟨V, hV⟩ : ∃ V, dv x y = V := ⟨_, rfl⟩
  rw [hV] at c3 c4
  clear hV
  obtain ⟨S, hS⟩ : ∃ S, x ^^^ y = S := ⟨_, rfl⟩
  rw [hS] at c5 c6
  clear hS
  obtain ⟨T, hT⟩ : ∃ T, tms x y = T := ⟨_, rfl⟩
  rw [hT] at c7 c8
  clear hT
  obtain ⟨B, hB⟩ : ∃ B, (!(x == 0#8)) = B := ⟨_, rfl⟩
  rw [hB] at c1 c2
  clear hB
  obtain ⟨C, hC⟩ : ∃ C, (!(y == 0#8)) = C := ⟨_, rfl⟩
  rw [hC] at c3 c4
  clear hC
  have c0 := Lib.hid c0
  have c1 := Lib.hid c1
  have c2 := Lib.hid c2
  have c3 := Lib.hid c3
  have c4 := Lib.hid c4
  have c5 := Lib.hid c5
  have c6 := Lib.hid c6
  have c7 := Lib.hid c7
  have c8 := Lib.hid c8
  go_enter Try.func3, Try.ntmps3
  go_wp2_with fail
  refine (c0.out _).mono ?_
  rintro e w1 ⟨rfl, b0⟩
  go_wp2_with fail
  refine (c1.out _).mono ?_
  rintro e w1 ⟨rfl, b1⟩
  go_wp2_with fail
  refine (c2.out _).mono ?_
  rintro e w1 ⟨rfl, rfl⟩
  go_wp2_with fail
  refine (c3.out _).mono ?_
  rintro e w1 ⟨rfl, b3⟩
  go_wp2_with fail
  refine (c4.out _).mono ?_
  rintro e w1 ⟨rfl, rfl⟩
  go_wp2_with fail
  refine (c5.out _).mono ?_
  rintro e w1 ⟨rfl, rfl⟩
  go_wp2_with fail
  refine (c6.out _).mono ?_
  rintro e w1 ⟨rfl, rfl⟩
  go_wp2_with fail
  refine (c7.out _).mono ?_
  rintro e w1 ⟨rfl, rfl⟩
  go_wp2_with fail
  refine (c8.out _).mono ?_
  rintro e w1 ⟨rfl, rfl⟩
  go_wp2
  go_ret
  exact ⟨rfl, chain (chain b0 b1) b3⟩

set_option maxRecDepth 100000 in
set_option maxHeartbeats 1000000 in
theorem walk_powers (D : Dev) (a n : Int) (w : World) (ha : (Lit.int .u8 a).wf = true) (hn : (Lit.int .i64 n).wf = true) :
    Calls Try.prog 4 #[.int .u8 a, .int .i64 n] w fun e w' => e = .returned (.bool true) ∧ Below w.heap.size w w' := by
  obtain ⟨x, rfl⟩ := u8_el ha
  obtain ⟨n1, n2⟩ := i64_in hn
  have c0 := alive_any D
  have c1 := D.log x
  have c2 := rlog_one x
  have c3 := fun W => D.pow x n W n1 n2
  have c4 := fun W => rpow_any x n W n1 n2
  have c5 := fun W => D.exp n W n1 n2
  have c6 := fun W => rexp_any n W n1 n2
  obtain ⟨K, hK⟩ : ∃ K, lo x = K := ⟨_, rfl⟩
  rw [hK] at c1 c2
  clear hK
  obtain ⟨V, hV⟩ : ∃ V, po x n = V := ⟨_, rfl⟩
  rw [hV] at c3 c4
  clear hV
  obtain ⟨E, hE⟩ : ∃ E, ex n = E := ⟨_, rfl⟩
  rw [hE] at c5 c6
  clear hE
  obtain ⟨B, hB⟩ : ∃ B, (!(x == 0#8)) = B := ⟨_, rfl⟩
  rw [hB] at c1 c2
  clear hB
  obtain ⟨C, hC⟩ : ∃ C, pk x n = C := ⟨_, rfl⟩
  rw [hC] at c3 c4
  clear hC
  have c0 := Lib.hid c0
  have c1 := Lib.hid c1
  have c2 := Lib.hid c2
  have c3 := Lib.hid c3
  have c4 := Lib.hid c4
  have c5 := Lib.hid c5
  have c6 := Lib.hid c6
  go_enter Try.func4, Try.ntmps4
  go_wp2_with fail
  refine (c0.out _).mono ?_
  rintro e w1 ⟨rfl, b0⟩
  go_wp2_with fail
  refine (c1.out _).mono ?_
  rintro e w1 ⟨rfl, rfl⟩
  go_wp2_with fail
  refine (c2.out _).mono ?_
  rintro e w1 ⟨rfl, rfl⟩
  go_wp2_with fail
  refine (c3.out _).mono ?_
  rintro e w1 ⟨rfl, b3⟩
  go_wp2_with fail
  refine (c4.out _).mono ?_
  rintro e w1 ⟨rfl, rfl⟩
  go_wp2_with fail
  refine (c5.out _).mono ?_
  rintro e w1 ⟨rfl, b5⟩
  go_wp2_with fail
  refine (c6.out _).mono ?_
  rintro e w1 ⟨rfl, rfl⟩
  go_wp2
  go_ret
  exact ⟨rfl, chain (chain b0 b3) b5⟩
end Go.Proofs.Ytffnjnomckipbaa.G5
