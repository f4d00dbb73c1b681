/- The contracts of the reference's functions of layer 5: powers of the generator, logarithms. -/
import Derived.Test.YtiodkllckcpinaaGreatDoorM14AH
set_option linter.unusedVariables false
set_option linter.unusedSimpArgs false
set_option maxRecDepth 100000
namespace Go.Proofs.YtiodkllckcpinaaGreatDoor
namespace G5
open Go.RowKit Mem

theorem two_it (k : Nat) : tms (it k 1) 2#8 = it (k + 1) 1 := by
 rw [show (2#8 : R) = it 1 1 by decide, it_tms]
theorem rtwo_any (j : Nat) (w : World) : Calls Tryz.prog 145 #[.int .u8 ((it j 1).toNat : Int), .int .u8 2] w fun e w' => e = .returned (.int .u8 ((it (j + 1) 1).toNat : Int)) ∧ w = w' := by
 have h := rmul_any (it j 1) 2#8 w
 rw [two_it] at h
 exact h

set_option maxHeartbeats 1000000 in
theorem rexp_any (n : Int) (w : World) (h1 : -9223372036854775808 ≤ n) (h2 : n ≤ 9223372036854775807) : Calls Tryz.prog 182 #[.int .i64 n] w fun e w' => e = .returned (bv (ex n)) ∧ w = w' := by
 have hg := go_mod n
 unfold ex
 obtain ⟨M, hM, hMl⟩ : ∃ M : Nat, n % 255 = (M : Int) ∧ M < 255 := ⟨(n % 255).toNat, by omega, by omega⟩
 rw [hM, Int.toNat_natCast]
 rw [hM] at hg
 obtain ⟨K, hK⟩ : ∃ K, Int.tmod n 255 = K := ⟨_, rfl⟩
 rw [hK] at hg
 clear hM
 by_cases hn : K < 0
 ·rw [if_pos hn] at hg
  have hd : decide (K < 0) = true := decide_eq_true hn
  clear hn
  go_enter Tryz.func182, Tryz.ntmps182
  go_wp2
  go_loop [4, 5] (fun p i => ∃ j : Nat, j ≤ M ∧ i = .int .i64 j ∧ p = .int .u8 ((it j 1).toNat : Int)) (fun _ i => M - (intOf i).toNat)
  case atStart => exact ⟨0, Nat.zero_le _, rfl, rfl⟩
  case round =>
   obtain ⟨j, hj, rfl, rfl⟩ := hrel
   by_cases hlt : j < M
   ·have c := Lib.hid (rtwo_any j w)
    go_wp2_with fail
    refine c.out.mono ?_
    rintro e w1 ⟨rfl, rfl⟩
    go_wp2
    go_round
    case rel => exact ⟨j + 1, by omega, by go_num, rfl⟩
    case measure => simp [intOf]; omega
   ·obtain rfl : j = M := by omega
    go_wp2
    go_ret
    exact ⟨rfl, rfl⟩
 ·rw [if_neg hn] at hg
  have hd : decide (K < 0) = false := decide_eq_false hn
  clear hn
  subst hg
  go_enter Tryz.func182, Tryz.ntmps182
  go_wp2
  go_loop [4, 5] (fun p i => ∃ j : Nat, j ≤ M ∧ i = .int .i64 j ∧ p = .int .u8 ((it j 1).toNat : Int)) (fun _ i => M - (intOf i).toNat)
  case atStart => exact ⟨0, Nat.zero_le _, rfl, rfl⟩
  case round =>
   obtain ⟨j, hj, rfl, rfl⟩ := hrel
   by_cases hlt : j < M
   ·have c := Lib.hid (rtwo_any j w)
    go_wp2_with fail
    refine c.out.mono ?_
    rintro e w1 ⟨rfl, rfl⟩
    go_wp2
    go_round
    case rel => exact ⟨j + 1, by omega, by go_num, rfl⟩
    case measure => simp [intOf]; omega
   ·obtain rfl : j = M := by omega
    go_wp2
    go_ret
    exact ⟨rfl, rfl⟩
end G5
end Go.Proofs.YtiodkllckcpinaaGreatDoor
