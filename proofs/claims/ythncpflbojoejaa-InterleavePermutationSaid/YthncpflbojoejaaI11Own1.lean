/- The contract of the landed function Index of layer 11. -/
import Derived.Test.YthncpflbojoejaaRows
import Derived.Test.YthncpflbojoejaaI11Con
import Derived.Lib.Hide
import Derived.WalkKit
import Derived.BigQuiet
import Derived.Deep.QuietTactic
import Derived.Deep.RegionHeld3
import Derived.WalkSpells
import Derived.WalkLawsBesides
namespace Go.Proofs.Ythncpflbojoejaa.I11
open Go.RowKit Mem
set_option linter.unusedVariables false
set_option linter.unusedSimpArgs false

theorem ret_two {x y x' y' : Int} (h : x = x') (h' : y = y') : Ending.returned (.tuple #[.int .i64 x, .int .i64 y]) = .returned (.tuple #[.int .i64 x', .int .i64 y']) := by rw [h, h']
set_option maxRecDepth 100000 in
set_option maxHeartbeats 2000000 in
theorem index_core (i n r : Nat) (w : World) (hr : 1 ≤ r) (hi : i < n) (hn : n ≤ 9223372036854775807) (hr2 : r ≤ 9223372036854775807) :
    Calls Try.prog 16 #[.int .i64 (i : Int), .int .i64 (n : Int), .int .i64 (r : Int)] w fun e w' => e = .returned (.tuple #[.int .i64 (pos n r i : Int), .int .i64 0]) ∧ ∃ k, w' = w.drewN k := by
  obtain ⟨p, q, N, M, X, hP⟩ := parts hr hi
  have e1 := hP.rem
  have e1' := hP.rem'
  have e2 := hP.quo
  have e2' := hP.quo'
  have e3 := hP.nquo
  have e3' := hP.nquo'
  have e4 := hP.nrem
  have e4' := hP.nrem'
  have e5 := hP.mul
  have pl := hP.pl
  have ql := hP.ql
  have Nl := hP.Nl
  have Ml := hP.Ml
  have hlt := hP.lt
  have hall := Lib.hid hP.all
  obtain ⟨K, hK⟩ : ∃ K, min p M = K := ⟨_, rfl⟩
  have r0 : (1 : Int) ≤ (r : Int) := by omega
  have r1 : (r : Int) ≠ 0 := by omega
  have i0 : (0 : Int) ≤ (i : Int) := by omega
  have n0 : (0 : Int) ≤ (n : Int) := by omega
  have d1 : decide ((r : Int) < 1) = false := decide_eq_false (by omega)
  have d2 : decide ((n : Int) < 0) = false := decide_eq_false (by omega)
  have d3 : decide ((i : Int) < 0) = false := decide_eq_false (by omega)
  have d4 : decide ((n : Int) ≤ (i : Int)) = false := decide_eq_false (by omega)
  rw [hK] at hlt hall
  have b1 : (X : Int) ≤ 9223372036854775807 := by omega
  have b2 : (X : Int) + (K : Int) ≤ 9223372036854775807 := by omega
  have b3 : (X : Int) + (K : Int) + (q : Int) ≤ 9223372036854775807 := by omega
  have b4 : (i : Int) ≤ 9223372036854775807 := by omega
  have b5 : (N : Int) ≤ 9223372036854775807 := by omega
  have b6 : (M : Int) ≤ 9223372036854775807 := by omega
  clear hP pl ql Nl Ml hlt
  rcases hmp : decide ((M : Int) < (p : Int)) with _ | _
  · obtain rfl : p = K := by have := of_decide_eq_false hmp; omega
    have hmp' : ¬ M < p := by have := of_decide_eq_false hmp; omega
    go_enter Try.func16, Try.ntmps16
    go_wp2_with fail
    go_quiet (fail)
    go_wp2_with fail
    go_region
    go_wp2
    go_ret2
    exact ⟨ret_two (by rw [← hall.out]; omega) rfl, _, rfl⟩
  · obtain rfl : M = K := by have := of_decide_eq_true hmp; omega
    have hmp' : M < p := by have := of_decide_eq_true hmp; omega
    go_enter Try.func16, Try.ntmps16
    go_wp2_with fail
    go_quiet (fail)
    go_wp2_with fail
    go_region
    go_wp2
    go_ret2
    exact ⟨ret_two (by rw [← hall.out]; omega) rfl, _, rfl⟩
end Go.Proofs.Ythncpflbojoejaa.I11
