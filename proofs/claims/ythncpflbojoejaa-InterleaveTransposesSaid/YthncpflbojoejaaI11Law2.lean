/- The walks of the laws InterleaveValues and InterleaveIndices, under the package's contracts. -/
import Derived.Test.YthncpflbojoejaaI11Dev
import Derived.Test.YthncpflbojoejaaI11Ref2
namespace Go.Proofs.Ythncpflbojoejaa.I11
open Go.RowKit Mem
set_option linter.unusedVariables false
set_option linter.unusedSimpArgs false

set_option maxRecDepth 100000 in
set_option maxHeartbeats 4000000 in
theorem walk_indices (D : Dev) (i n r : Int) (w : World) (wi : (Lit.int .i64 i).wf = true) (wn : (Lit.int .i64 n).wf = true) (wr : (Lit.int .i64 r).wf = true) :
    Calls Try.prog 4 #[.int .i64 i, .int .i64 n, .int .i64 r] w fun e w' => e = .returned (.bool true) ∧ Below w.heap.size w w' := by
  have cA := Lib.hid (fun W => awake_any D W)
  obtain ⟨i1, i2⟩ : -9223372036854775808 ≤ i ∧ i ≤ 9223372036854775807 := (Lit.wf_int_iff .i64 _).1 wi
  obtain ⟨n1, n2⟩ : -9223372036854775808 ≤ n ∧ n ≤ 9223372036854775807 := (Lit.wf_int_iff .i64 _).1 wn
  obtain ⟨r1, r2⟩ : -9223372036854775808 ≤ r ∧ r ≤ 9223372036854775807 := (Lit.wf_int_iff .i64 _).1 wr
  obtain ⟨k, hk⟩ : ∃ k, ixN i n r = k := ⟨_, rfl⟩
  obtain ⟨f, hf⟩ : ∃ k, ixE i n r = k := ⟨_, rfl⟩
  have c1 := Lib.hid (fun W => D.index_as i1 i2 n1 n2 r1 r2 hk hf W)
  have c2 := fun W => rindex_any i n r W i1 i2 n1 n2 r1 r2
  rw [hk, hf] at c2
  replace c2 := Lib.hid c2
  clear wi wn wr hk hf
  go_enter Try.func4, Try.ntmps4
  go_wp2_with fail
  refine (c1.out _).mono ?_
  rintro e w1 ⟨rfl, q, rfl⟩
  go_wp2_with fail
  refine (c2.out _).mono ?_
  rintro e w2 ⟨rfl, rfl⟩
  clear c1 c2
  go_wp2_with (go_at_call 11; refine (cA.out _).mono ?_; rintro e w5 ⟨rfl, hb⟩)
  go_ret
  exact ⟨rfl, chain (chainN (Below.refl _ w) q) hb⟩
set_option maxRecDepth 100000 in
set_option maxHeartbeats 4000000 in
theorem walk_values (D : Dev) (c : ByteArray) (r : Int) (w : World) (hc : c.size ≤ 140737488351232) (wr : (Lit.int .i64 r).wf = true) :
    Calls Try.prog 3 #[.string c, .int .i64 r] w fun e w' => e = .returned (.bool true) ∧ Below w.heap.size w w' := by
  have cA := Lib.hid (fun W => awake_any D W)
  obtain ⟨r1, r2⟩ : -9223372036854775808 ≤ r ∧ r ≤ 9223372036854775807 := (Lit.wf_int_iff .i64 _).1 wr
  clear wr
  by_cases h1 : c.size ≤ 900
  · have d1 : decide (900 < c.size) = false := decide_eq_false (by omega)
    have d1' : decide ((900 : Int) < (c.size : Int)) = false := decide_eq_false (by omega)
    have c2 := fun W => rinter_any c r W (by omega) r2
    have c4 := fun W => rdeinter_any c r W (by omega) r2
    unfold Iled at c2
    unfold Dled at c4
    obtain ⟨A, hA⟩ : ∃ A, iS c r = A := ⟨_, rfl⟩
    obtain ⟨C, hC⟩ : ∃ A, dS c r = A := ⟨_, rfl⟩
    obtain ⟨p, hp⟩ : ∃ p, pE r = p := ⟨_, rfl⟩
    have c1 := Lib.hid (fun W => D.inter_as (by omega) r1 r2 hA hp W)
    have c3 := Lib.hid (fun W => D.deinter_as (by omega) r1 r2 hC hp W)
    rw [hA, hp] at c2
    rw [hC, hp] at c4
    replace c2 := Lib.hid c2
    replace c4 := Lib.hid c4
    clear h1 hc hA hC hp
    go_enter Try.func3, Try.ntmps3
    go_wp2_with fail
    refine (c1.out _).mono ?_
    rintro e w1 ⟨rfl, hB⟩
    go_wp2_with fail
    refine (c2.out _).mono ?_
    rintro e w2 ⟨rfl, hb⟩
    replace hB := chain hB hb
    clear hb
    go_wp2_with fail
    refine (c3.out _).mono ?_
    rintro e w3 ⟨rfl, hb⟩
    replace hB := chain hB hb
    clear hb
    go_wp2_with fail
    refine (c4.out _).mono ?_
    rintro e w4 ⟨rfl, hb⟩
    replace hB := chain hB hb
    clear hb c1 c2 c3 c4
    go_wp2_with (go_at_call 11; refine (cA.out _).mono ?_; rintro e w5 ⟨rfl, hb⟩)
    go_ret
    exact ⟨rfl, chain hB hb⟩
  · have d1 : decide (900 < c.size) = true := decide_eq_true (by omega)
    have d1' : decide ((900 : Int) < (c.size : Int)) = true := decide_eq_true (by omega)
    clear h1 hc r1 r2
    go_enter Try.func3, Try.ntmps3
    go_wp2_with fail
    refine (cA.out _).mono ?_
    rintro e w1 ⟨rfl, hB⟩
    go_wp2
    go_ret
    exact ⟨rfl, hB⟩
end Go.Proofs.Ythncpflbojoejaa.I11
