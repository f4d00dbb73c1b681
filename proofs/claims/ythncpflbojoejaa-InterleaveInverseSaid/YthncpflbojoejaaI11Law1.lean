/- The walk of the law InterleaveInverse, under the package's contracts. -/
import Derived.Test.YthncpflbojoejaaI11Dev
namespace Go.Proofs.Ythncpflbojoejaa.I11
open Go.RowKit Mem
set_option linter.unusedVariables false
set_option linter.unusedSimpArgs false

set_option maxRecDepth 100000 in
set_option maxHeartbeats 4000000 in
theorem walk_inverse (D : Dev) (c : ByteArray) (r : Int) (w : World) (hc : c.size ≤ 140737488351232) (wr : (Lit.int .i64 r).wf = true) :
    Calls Try.prog 5 #[.string c, .int .i64 r] w fun e w' => e = .returned (.bool true) ∧ Below w.heap.size w w' := by
  have cA := Lib.hid (fun W => awake_any D W)
  obtain ⟨r1, r2⟩ : -9223372036854775808 ≤ r ∧ r ≤ 9223372036854775807 := (Lit.wf_int_iff .i64 _).1 wr
  clear wr
  by_cases h1 : c.size ≤ 900
  · have d1 : decide (900 < c.size) = false := decide_eq_false (by omega)
    have d1' : decide ((900 : Int) < (c.size : Int)) = false := decide_eq_false (by omega)
    by_cases h2 : r < 1
    · have d2 : decide (r < 1) = true := decide_eq_true h2
      clear h1 h2 hc r1 r2
      go_enter Try.func5, Try.ntmps5
      go_wp2_with fail
      refine (cA.out _).mono ?_
      rintro e w1 ⟨rfl, hB⟩
      go_wp2
      go_ret
      exact ⟨rfl, hB⟩
    · have d2 : decide (r < 1) = false := decide_eq_false h2
      obtain ⟨R, rfl⟩ : ∃ I : Nat, r = I := ⟨r.toNat, by omega⟩
      have hR : 1 ≤ R := by omega
      have sA := iS_size c hR
      have sC := dS_size c hR
      obtain ⟨A, hA⟩ : ∃ A, iS c (R : Int) = A := ⟨_, rfl⟩
      obtain ⟨C, hC⟩ : ∃ A, dS c (R : Int) = A := ⟨_, rfl⟩
      have hp := p_ok hR
      have eA := dS_iS c hR
      have eC := iS_dS c hR
      rw [hA] at sA eA
      rw [hC] at sC eC
      have c1 := Lib.hid (fun W => D.inter_as (by omega) r1 r2 hA hp W)
      have c2 := Lib.hid (fun W => D.deinter_as (by omega) r1 r2 eA hp W)
      have c3 := Lib.hid (fun W => D.deinter_as (by omega) r1 r2 hC hp W)
      have c4 := Lib.hid (fun W => D.inter_as (by omega) r1 r2 eC hp W)
      clear h1 h2 hc hA hC hp eA eC sC
      go_enter Try.func5, Try.ntmps5
      go_wp2_with fail
      refine (c1.out _).mono ?_
      rintro e w1 ⟨rfl, hB⟩
      go_wp2_with fail
      refine (c2.out _).mono ?_
      rintro e w2 ⟨rfl, hb⟩
      replace hB := chain hB hb
      clear hb
      go_wp2_with fail
      refine (c3.out _).mono ?_
      rintro e w3 ⟨rfl, hb⟩
      replace hB := chain hB hb
      clear hb
      go_wp2_with fail
      refine (c4.out _).mono ?_
      rintro e w4 ⟨rfl, hb⟩
      replace hB := chain hB hb
      clear hb c1 c2 c3 c4
      go_wp2_with (go_at_call 11; refine (cA.out _).mono ?_; rintro e w5 ⟨rfl, hb⟩)
      go_ret
      exact ⟨rfl, chain hB hb⟩
  · have d1 : decide (900 < c.size) = true := decide_eq_true (by omega)
    have d1' : decide ((900 : Int) < (c.size : Int)) = true := decide_eq_true (by omega)
    clear h1 hc r1 r2
    go_enter Try.func5, Try.ntmps5
    go_wp2_with fail
    refine (cA.out _).mono ?_
    rintro e w1 ⟨rfl, hB⟩
    go_wp2
    go_ret
    exact ⟨rfl, hB⟩
end Go.Proofs.Ythncpflbojoejaa.I11
