/- The walks of the laws ViterbiResult and ViterbiCosts, under the package's contracts. -/
import Derived.Test.YtmkmikegddafdaaV10Ref5
import Derived.Test.YtmkmikegddafdaaV10Ref6
import Derived.Test.YtmkmikegddafdaaV10Law6
namespace Go.Proofs.Ytmkmikegddafdaa.V10
open Go.RowKit Mem C9
set_option linter.unusedVariables false
set_option linter.unusedSimpArgs false

set_option maxRecDepth 100000 in
set_option maxHeartbeats 4000000 in
theorem walk_result (D : Dev) (c : ByteArray) (w : World) (hc : c.size ≤ 140737488351232) :
    Calls Try.prog 3 #[.string c] w fun e w' => e = .returned (.bool true) ∧ Below w.heap.size w w' := by
  have cA := Lib.hid (fun W => awake_any D W)
  by_cases h1 : c.size ≤ 1000
  · have d1 : decide (1000 < c.size) = false := decide_eq_false (by omega)
    have d1' : decide ((1000 : Int) < (c.size : Int)) = false := decide_eq_false (by omega)
    have c1 := fun W => D.decode c W (by omega)
    have c2 := fun W => rdecode_any c W (by omega)
    unfold Deco at c1 c2
    obtain ⟨S, hS⟩ : ∃ S, dS c = S := ⟨_, rfl⟩
    obtain ⟨N, hN⟩ : ∃ S, dN c = S := ⟨_, rfl⟩
    obtain ⟨B, hB⟩ : ∃ S, dB c = S := ⟨_, rfl⟩
    obtain ⟨E, hE⟩ : ∃ S, eB c = S := ⟨_, rfl⟩
    rw [hS, hN, hB, hE] at c1 c2
    replace c1 := Lib.hid c1
    replace c2 := Lib.hid c2
    clear h1 hc hS hN hB hE
    go_enter Try.func3, Try.ntmps3
    go_wp2_with fail
    refine (c1.out _).mono ?_
    rintro e w1 ⟨rfl, hB⟩
    go_wp2_with fail
    refine (c2.out _).mono ?_
    rintro e w2 ⟨rfl, hb⟩
    replace hB := chain hB hb
    clear hb
    go_wp2_with (go_at_call 11; refine (cA.out _).mono ?_; rintro e w3 ⟨rfl, hb⟩)
    go_ret
    exact ⟨rfl, chain hB hb⟩
  · have d1 : decide (1000 < c.size) = true := decide_eq_true (by omega)
    have d1' : decide ((1000 : Int) < (c.size : Int)) = true := decide_eq_true (by omega)
    clear h1 hc
    go_enter Try.func3, Try.ntmps3
    go_wp2_with (go_at_call 11; refine (cA.out _).mono ?_; rintro e w3 ⟨rfl, hb⟩)
    go_ret
    exact ⟨rfl, hb⟩
def cAf (c : ByteArray) (k : Int) (s : Nat) : Int := cA c k (hi s) (lo s)
theorem cost_zero (c : ByteArray) : cE c 0 = eB c ∧ cAf c 0 0 = dN c := by
  by_cases h : eB c = 0
  · have e : cE c 0 = 0 := by unfold cE; rw [if_pos h, if_neg (by omega)]
    refine ⟨e.trans h.symm, ?_⟩
    show cA c 0 false false = _
    unfold cA
    rw [if_pos e]
    exact cg_zero h
  · have e : cE c 0 = eB c := by unfold cE; rw [if_neg h]
    refine ⟨e, ?_⟩
    show cA c 0 false false = _
    unfold cA dN
    rw [if_neg (by rw [e]; exact h), if_neg h]
theorem blk_new (w : World) (f : Nat → Int) : BlkT 27 (w.alloc (.cells #[.int .i64 (f 0), .int .i64 (f 1), .int .i64 (f 2), .int .i64 (f 3)] 27)) w.heap.size (vec f) ∧ w.heap.size < (w.alloc (.cells #[.int .i64 (f 0), .int .i64 (f 1), .int .i64 (f 2), .int .i64 (f 3)] 27)).heap.size ∧ Below w.heap.size w (w.alloc (.cells #[.int .i64 (f 0), .int .i64 (f 1), .int .i64 (f 2), .int .i64 (f 3)] 27)) :=
  ⟨World.alloc_heap_new w _, by simp, (Below.refl _ w).alloc (Nat.le_refl _) _⟩
set_option maxRecDepth 100000 in
set_option maxHeartbeats 8000000 in
theorem walk_costs (D : Dev) (c : ByteArray) (k : Int) (w : World) (hc : c.size ≤ 140737488351232) (hk : (Lit.int .i64 k).wf = true) :
    Calls Try.prog 4 #[.string c, .int .i64 k] w fun e w' => e = .returned (.bool true) ∧ Below w.heap.size w w' := by
  have cA := Lib.hid (fun W => awake_any D W)
  obtain ⟨k1, k2⟩ : -9223372036854775808 ≤ k ∧ k ≤ 9223372036854775807 := (Lit.wf_int_iff .i64 _).1 hk
  by_cases h1 : c.size ≤ 300
  · have d1 : decide (300 < c.size) = false := decide_eq_false (by omega)
    have d1' : decide ((300 : Int) < (c.size : Int)) = false := decide_eq_false (by omega)
    have c1 : ∀ W, Calls Try.prog 14 #[.string c, .int .i64 k] W fun e w' => e = .returned (.tuple #[.agg #[.int .i64 (cAf c k 0), .int .i64 (cAf c k 1), .int .i64 (cAf c k 2), .int .i64 (cAf c k 3)], .int .i64 (cE c k)]) ∧ Below W.heap.size W w' := fun W => D.costs c k W (by omega) k1 k2
    have c2 : ∀ W, Calls Try.prog 15 #[.string c, .int .i64 k] W fun e w' => e = .returned (.tuple #[.agg #[.int .i64 (cAf c k 0), .int .i64 (cAf c k 1), .int .i64 (cAf c k 2), .int .i64 (cAf c k 3)], .int .i64 (cE c k)]) ∧ Below W.heap.size W w' := fun W => rcosts_any c k W (by omega) k1 k2
    have c3 : ∀ W, Calls Try.prog 14 #[.string c, .int .i64 0] W fun e w' => e = .returned (.tuple #[.agg #[.int .i64 (cAf c 0 0), .int .i64 (cAf c 0 1), .int .i64 (cAf c 0 2), .int .i64 (cAf c 0 3)], .int .i64 (cE c 0)]) ∧ Below W.heap.size W w' := fun W => D.costs c 0 W (by omega) (by omega) (by omega)
    have c4 := fun W => D.decode c W (by omega)
    unfold Deco at c4
    obtain ⟨z1, z2⟩ := cost_zero c
    rw [z1] at c3
    obtain ⟨F, hF⟩ : ∃ S, cAf c k = S := ⟨_, rfl⟩
    obtain ⟨F0, hF0⟩ : ∃ S, cAf c 0 = S := ⟨_, rfl⟩
    rw [hF0] at z2 c3
    rw [← z2] at c4
    rw [hF] at c1 c2
    obtain ⟨S, hS⟩ : ∃ S, dS c = S := ⟨_, rfl⟩
    obtain ⟨B, hB⟩ : ∃ S, dB c = S := ⟨_, rfl⟩
    obtain ⟨E, hE⟩ : ∃ S, eB c = S := ⟨_, rfl⟩
    obtain ⟨E1, hE1⟩ : ∃ S, cE c k = S := ⟨_, rfl⟩
    rw [hS, hB, hE] at c4
    rw [hE] at c3
    rw [hE1] at c1 c2
    have n1 := fun W => blk_new W F
    have n2 := fun W => blk_new W F0
    have heq := fun W => eq4 (F 0) (F 1) (F 2) (F 3) W
    replace c1 := Lib.hid c1
    replace c2 := Lib.hid c2
    replace c3 := Lib.hid c3
    replace c4 := Lib.hid c4
    replace n1 := Lib.hid n1
    replace n2 := Lib.hid n2
    clear h1 hc hS hB hE hE1 hF hF0 z1 z2 hk
    go_enter Try.func4, Try.ntmps4
    go_wp2_with fail
    refine (c1.out _).mono ?_
    rintro e w1 ⟨rfl, hB⟩
    obtain ⟨p1, p2, p3⟩ := n1.out w1
    replace hB := chain hB p3
    obtain ⟨g1, hg1⟩ : ∃ g, w1.heap.size = g := ⟨_, rfl⟩
    rw [hg1] at p1 p2
    replace p1 := Lib.hid p1
    replace p2 := Lib.hid p2
    replace hg1 := Lib.hid hg1
    clear p3
    go_wp2_with fail
    rw [hg1.out]
    refine (c2.out _).mono ?_
    rintro e w2 ⟨rfl, hb⟩
    replace hB := chain hB hb
    have q1 := p1.out.below hb p2.out
    have q2 := Nat.lt_of_lt_of_le p2.out hb.size
    obtain ⟨r1, r2, r3⟩ := n1.out w2
    replace hB := chain hB r3
    have q3 := q1.below r3 q2
    have q4 := Nat.lt_trans q2 r2
    obtain ⟨g2, hg2⟩ : ∃ g, w2.heap.size = g := ⟨_, rfl⟩
    rw [hg2] at r1 r2
    replace r1 := Lib.hid r1
    replace r2 := Lib.hid r2
    replace q3 := Lib.hid q3
    replace q4 := Lib.hid q4
    replace hg2 := Lib.hid hg2
    clear p1 p2 r3 hb q1 q2 hg1
    go_wp2_with fail
    rw [hg2.out]
    refine (c3.out _).mono ?_
    rintro e w3 ⟨rfl, hb⟩
    replace hB := chain hB hb
    have q1 := q3.out.below hb q4.out
    have q2 := Nat.lt_of_lt_of_le q4.out hb.size
    have s1 := r1.out.below hb r2.out
    have s2 := Nat.lt_of_lt_of_le r2.out hb.size
    obtain ⟨t1, t2, t3⟩ := n2.out w3
    replace hB := chain hB t3
    have u1 := q1.below t3 q2
    have u2 := Nat.lt_trans q2 t2
    have v1 := s1.below t3 s2
    have v2 := Nat.lt_trans s2 t2
    obtain ⟨g3, hg3⟩ : ∃ g, w3.heap.size = g := ⟨_, rfl⟩
    rw [hg3] at t1 t2
    replace t1 := Lib.hid t1
    replace t2 := Lib.hid t2
    replace u1 := Lib.hid u1
    replace u2 := Lib.hid u2
    replace v1 := Lib.hid v1
    replace v2 := Lib.hid v2
    replace hg3 := Lib.hid hg3
    clear r1 r2 t3 hb q1 q2 s1 s2 hg2 q3 q4
    go_wp2_with fail
    rw [hg3.out]
    refine (c4.out _).mono ?_
    rintro e w4 ⟨rfl, hb⟩
    replace hB := chain hB hb
    have a1 := u1.out.below hb u2.out
    have a2 := v1.out.below hb v2.out
    have a3 := t1.out.below hb t2.out
    have x0 : w4.cell? ⟨g1, 0, none⟩ = some (.int .i64 (F 0)) := a1.cell 0
    have x1 : w4.cell? ⟨g1, 1, none⟩ = some (.int .i64 (F 1)) := a1.cell 1
    have x2 : w4.cell? ⟨g1, 2, none⟩ = some (.int .i64 (F 2)) := a1.cell 2
    have x3 : w4.cell? ⟨g1, 3, none⟩ = some (.int .i64 (F 3)) := a1.cell 3
    have y0 : w4.cell? ⟨g2, 0, none⟩ = some (.int .i64 (F 0)) := a2.cell 0
    have y1 : w4.cell? ⟨g2, 1, none⟩ = some (.int .i64 (F 1)) := a2.cell 1
    have y2 : w4.cell? ⟨g2, 2, none⟩ = some (.int .i64 (F 2)) := a2.cell 2
    have y3 : w4.cell? ⟨g2, 3, none⟩ = some (.int .i64 (F 3)) := a2.cell 3
    have z0 : w4.cell? ⟨g3, 0, none⟩ = some (.int .i64 (F0 0)) := a3.cell 0
    clear a1 a2 a3 u1 u2 v1 v2 t1 t2 hb hg3 n1 n2 c1 c2 c3 c4
    go_wp2_with (go_at_call 11; refine (cA.out _).mono ?_; rintro e w5 ⟨rfl, hb⟩)
    go_ret
    exact ⟨rfl, chain hB hb⟩
  · have d1 : decide (300 < c.size) = true := decide_eq_true (by omega)
    have d1' : decide ((300 : Int) < (c.size : Int)) = true := decide_eq_true (by omega)
    clear h1 hc
    go_enter Try.func4, Try.ntmps4
    go_wp2_with (go_at_call 11; refine (cA.out _).mono ?_; rintro e w3 ⟨rfl, hb⟩)
    go_ret
    exact ⟨rfl, hb⟩
end Go.Proofs.Ytmkmikegddafdaa.V10
