/- The walks of the laws InterleaveSpreads and InterleaveTransposes, under the package's contracts. -/
import Derived.Test.YthncpflbojoejaaI11Dev
namespace Go.Proofs.Ythncpflbojoejaa.I11
open Go.RowKit Mem
set_option linter.unusedVariables false
set_option linter.unusedSimpArgs false

/-- The first k bytes. -/
theorem dS_turn (c : ByteArray) {r h : Nat} (hr : 1 ≤ r) (hh : 1 ≤ h) (hc : c.size = r * h) : dS c (r : Int) = iS c (h : Int) := by
  rw [dS_at hr, iS_at hh, dl_turn hr hh _ (by rw [size_list, hc])]
set_option maxRecDepth 100000 in
set_option maxHeartbeats 4000000 in
theorem walk_transposes (D : Dev) (c : ByteArray) (r h : Int) (w : World) (hc : c.size ≤ 140737488351232) (wr : (Lit.int .u8 r).wf = true) (wh : (Lit.int .u8 h).wf = true) :
    Calls Try.prog 8 #[.string c, .int .u8 r, .int .u8 h] w fun e w' => e = .returned (.bool true) ∧ Below w.heap.size w w' := by
  have cA := Lib.hid (fun W => awake_any D W)
  obtain ⟨r1, r2⟩ : 0 ≤ r ∧ r ≤ 255 := (Lit.wf_int_iff .u8 _).1 wr
  obtain ⟨h1, h2⟩ : 0 ≤ h ∧ h ≤ 255 := (Lit.wf_int_iff .u8 _).1 wh
  clear wr wh
  obtain ⟨R, rfl⟩ : ∃ I : Nat, r = I := ⟨r.toNat, by omega⟩
  obtain ⟨H, rfl⟩ : ∃ I : Nat, h = I := ⟨h.toNat, by omega⟩
  obtain ⟨P, hP⟩ : ∃ P, R * H = P := ⟨_, rfl⟩
  have hPi : (R : Int) * (H : Int) = (P : Int) := by rw [← hP]; exact (Int.natCast_mul _ _).symm
  have hP2 : P ≤ 255 * 255 := by rw [← hP]; exact Nat.mul_le_mul (by omega) (by omega)
  have q0 : (0 : Int) ≤ (P : Int) := by omega
  have q1 : (P : Int) ≤ 65025 := by omega
  by_cases ok : 1 ≤ R ∧ 1 ≤ H ∧ R ≤ 30 ∧ H ≤ 30 ∧ P ≤ c.size
  · have d1 : decide ((R : Int) < 1) = false := decide_eq_false (by omega)
    have d2 : decide ((H : Int) < 1) = false := decide_eq_false (by omega)
    have d3 : decide ((30 : Int) < (R : Int)) = false := decide_eq_false (by omega)
    have d4 : decide ((30 : Int) < (H : Int)) = false := decide_eq_false (by omega)
    have d5 : decide ((c.size : Int) < (P : Int)) = false := decide_eq_false (by omega)
    have q2 : (P : Int) ≤ (c.size : Int) := by omega
    have ex : (c.extract 0 P).size = P := by rw [ByteArray.size_extract]; omega
    have hS := dS_turn (c.extract 0 P) ok.1 ok.2.1 (by rw [ex, hP])
    have cI := D.inter_as (c := c.extract 0 P) (r := (H : Int)) (by omega) (by omega) (by omega) rfl (p_ok ok.2.1)
    have cD := D.deinter_as (c := c.extract 0 P) (r := (R : Int)) (by omega) (by omega) (by omega) rfl (p_ok ok.1)
    rw [hS] at cD
    obtain ⟨S, hSS⟩ : ∃ S, iS (c.extract 0 P) (H : Int) = S := ⟨_, rfl⟩
    rw [hSS] at cI cD
    replace cI := Lib.hid cI
    replace cD := Lib.hid cD
    clear ok hS hSS ex hP hP2
    go_enter Try.func8, Try.ntmps8
    go_wp2_with fail
    refine (cD.out _).mono ?_
    rintro e w1 ⟨rfl, hB⟩
    go_wp2_with fail
    refine (cI.out _).mono ?_
    rintro e w2 ⟨rfl, hb⟩
    replace hB := chain hB hb
    clear hb cI cD
    go_wp2_with (go_at_call 11; refine (cA.out _).mono ?_; rintro e w5 ⟨rfl, hb⟩)
    go_ret
    exact ⟨rfl, chain hB hb⟩
  · clear hP
    rcases d1 : decide ((R : Int) < 1) with _ | _
    rotate_left
    · clear ok
      go_enter Try.func8, Try.ntmps8
      go_wp2_with fail
      refine (cA.out _).mono ?_
      rintro e w1 ⟨rfl, hB⟩
      go_wp2
      go_ret
      exact ⟨rfl, hB⟩
    rcases d2 : decide ((H : Int) < 1) with _ | _
    rotate_left
    · clear ok
      go_enter Try.func8, Try.ntmps8
      go_wp2_with fail
      refine (cA.out _).mono ?_
      rintro e w1 ⟨rfl, hB⟩
      go_wp2
      go_ret
      exact ⟨rfl, hB⟩
    rcases d3 : decide ((30 : Int) < (R : Int)) with _ | _
    rotate_left
    · clear ok
      go_enter Try.func8, Try.ntmps8
      go_wp2_with fail
      refine (cA.out _).mono ?_
      rintro e w1 ⟨rfl, hB⟩
      go_wp2
      go_ret
      exact ⟨rfl, hB⟩
    rcases d4 : decide ((30 : Int) < (H : Int)) with _ | _
    rotate_left
    · clear ok
      go_enter Try.func8, Try.ntmps8
      go_wp2_with fail
      refine (cA.out _).mono ?_
      rintro e w1 ⟨rfl, hB⟩
      go_wp2
      go_ret
      exact ⟨rfl, hB⟩
    have d5 : decide ((c.size : Int) < (P : Int)) = true := decide_eq_true (by have := of_decide_eq_false d1; have := of_decide_eq_false d2; have := of_decide_eq_false d3; have := of_decide_eq_false d4; omega)
    have d5' : decide (c.size < P) = true := decide_eq_true (by have := of_decide_eq_true d5; omega)
    clear ok
    go_enter Try.func8, Try.ntmps8
    go_wp2_with fail
    refine (cA.out _).mono ?_
    rintro e w1 ⟨rfl, hB⟩
    go_wp2
    go_ret
    exact ⟨rfl, hB⟩
theorem max_of (x y : Int) : (if x < y then y else x) = max x y := by omega
set_option maxRecDepth 100000 in
set_option maxHeartbeats 4000000 in
theorem walk_spreads (D : Dev) (i j n r : Int) (w : World) (wi : (Lit.int .u16 i).wf = true) (wj : (Lit.int .u16 j).wf = true) (wn : (Lit.int .u16 n).wf = true) (wr : (Lit.int .u16 r).wf = true) :
    Calls Try.prog 7 #[.int .u16 i, .int .u16 j, .int .u16 n, .int .u16 r] w fun e w' => e = .returned (.bool true) ∧ Below w.heap.size w w' := by
  have cA := Lib.hid (fun W => awake_any D W)
  obtain ⟨i1, i2⟩ : 0 ≤ i ∧ i ≤ 65535 := (Lit.wf_int_iff .u16 _).1 wi
  obtain ⟨j1, j2⟩ : 0 ≤ j ∧ j ≤ 65535 := (Lit.wf_int_iff .u16 _).1 wj
  obtain ⟨n1, n2⟩ : 0 ≤ n ∧ n ≤ 65535 := (Lit.wf_int_iff .u16 _).1 wn
  obtain ⟨r1, r2⟩ : 0 ≤ r ∧ r ≤ 65535 := (Lit.wf_int_iff .u16 _).1 wr
  clear wi wj wn wr
  rcases d1 : decide (r < 1) with _ | _
  rotate_left
  · go_enter Try.func7, Try.ntmps7
    go_wp2_with fail
    refine (cA.out _).mono ?_
    rintro e w1 ⟨rfl, hB⟩
    go_wp2
    go_ret
    exact ⟨rfl, hB⟩
  rcases d2 : decide (n ≤ i) with _ | _
  rotate_left
  · go_enter Try.func7, Try.ntmps7
    go_wp2_with fail
    refine (cA.out _).mono ?_
    rintro e w1 ⟨rfl, hB⟩
    go_wp2
    go_ret
    exact ⟨rfl, hB⟩
  rcases d3 : decide (n ≤ j) with _ | _
  rotate_left
  · go_enter Try.func7, Try.ntmps7
    go_wp2_with fail
    refine (cA.out _).mono ?_
    rintro e w1 ⟨rfl, hB⟩
    go_wp2
    go_ret
    exact ⟨rfl, hB⟩
  rcases d4 : (i == j) with _ | _
  rotate_left
  · go_enter Try.func7, Try.ntmps7
    go_wp2_with fail
    refine (cA.out _).mono ?_
    rintro e w1 ⟨rfl, hB⟩
    go_wp2
    go_ret
    exact ⟨rfl, hB⟩
  have b1 := of_decide_eq_false d1
  have b2 := of_decide_eq_false d2
  have b3 := of_decide_eq_false d3
  have b4 : i ≠ j := fun e => by rw [e] at d4; simp at d4
  obtain ⟨I, rfl⟩ : ∃ I : Nat, i = I := ⟨i.toNat, by omega⟩
  obtain ⟨J, rfl⟩ : ∃ I : Nat, j = I := ⟨j.toNat, by omega⟩
  obtain ⟨N, rfl⟩ : ∃ I : Nat, n = I := ⟨n.toNat, by omega⟩
  obtain ⟨R, rfl⟩ : ∃ I : Nat, r = I := ⟨r.toNat, by omega⟩
  have hsp := spread (n := N) (r := R) (i := I) (j := J) (by omega) (by omega) (by omega) (by omega)
  obtain ⟨g1, g2⟩ := ix_ok (i := I) (n := N) (r := R) (by omega) (by omega)
  obtain ⟨g3, g4⟩ := ix_ok (i := J) (n := N) (r := R) (by omega) (by omega)
  have u1 := pos_lt (n := N) (r := R) (i := I) (by omega) (by omega)
  have u2 := pos_lt (n := N) (r := R) (i := J) (by omega) (by omega)
  have e1 : (N : Int) / (R : Int) = ((N / R : Nat) : Int) := rfl
  have e2 : (N : Int).tdiv (R : Int) = ((N / R : Nat) : Int) := Int.tdiv_eq_ediv_of_nonneg (by omega)
  have e3 := Nat.div_le_self N R
  obtain ⟨X, hX⟩ : ∃ X, pos N R I = X := ⟨_, rfl⟩
  obtain ⟨Y, hY⟩ : ∃ X, pos N R J = X := ⟨_, rfl⟩
  obtain ⟨Q, hQ⟩ : ∃ X, N / R = X := ⟨_, rfl⟩
  rw [hX] at g2 u1 hsp
  rw [hY] at g4 u2 hsp
  rw [hQ] at e1 e2 e3 hsp
  have c1 := Lib.hid (fun W => D.index_as (by omega) (by omega) (by omega) (by omega) (by omega) (by omega) g2 g1 W)
  have c2 := Lib.hid (fun W => D.index_as (by omega) (by omega) (by omega) (by omega) (by omega) (by omega) g4 g3 W)
  clear g1 g2 g3 g4 hX hY hQ
  have hr0 : (R : Int) ≠ 0 := by omega
  have hr1 : (1 : Int) ≤ (R : Int) := by omega
  have Q1 : (Q : Int) ≤ 65535 := by omega
  have X1 : (X : Int) ≤ 65535 := by omega
  have Y1 : (Y : Int) ≤ 65535 := by omega
  have d2n : decide (N ≤ I) = false := decide_eq_false (by omega)
  have d3n : decide (N ≤ J) = false := decide_eq_false (by omega)
  have d4n : (I == J) = false := by
    rw [beq_eq_false_iff_ne]
    omega
  clear u1 u2 e3 b1 b2 b3 b4
  rcases Int.lt_or_le ((X : Int) - (Y : Int)) ((Y : Int) - (X : Int)) with m1 | m1
  · rcases nr : decide ((Y : Int) - (X : Int) < (Q : Int) - 1) with _ | _
    · clear hsp
      go_enter Try.func7, Try.ntmps7
      go_wp2_with fail
      refine (c1.out _).mono ?_
      rintro e w1 ⟨rfl, q, rfl⟩
      go_wp2_with fail
      refine (c2.out _).mono ?_
      rintro e w2 ⟨rfl, q2, rfl⟩
      clear c1 c2
      go_wp2_with (go_at_call 11; refine (cA.out _).mono ?_; rintro e w5 ⟨rfl, hb⟩)
      go_ret
      exact ⟨rfl, chain (chainN (Below.refl _ w) (q + q2)) hb⟩
    · have nr' := of_decide_eq_true nr
      have hfar := hsp (by omega) (by omega)
      clear hsp
      rcases Int.lt_or_le ((I : Int) - (J : Int)) ((J : Int) - (I : Int)) with m2 | m2
      · have d5 : decide ((R : Int) ≤ (J : Int) - (I : Int)) = true := decide_eq_true (by omega)
        clear hfar
        go_enter Try.func7, Try.ntmps7
        go_wp2_with fail
        refine (c1.out _).mono ?_
        rintro e w1 ⟨rfl, q, rfl⟩
        go_wp2_with fail
        refine (c2.out _).mono ?_
        rintro e w2 ⟨rfl, q2, rfl⟩
        clear c1 c2
        go_wp2_with (go_at_call 11; refine (cA.out _).mono ?_; rintro e w5 ⟨rfl, hb⟩)
        go_ret
        exact ⟨rfl, chain (chainN (Below.refl _ w) (q + q2)) hb⟩
      · have m2' : ¬ (I : Int) - (J : Int) < (J : Int) - (I : Int) := by omega
        have d5 : decide ((R : Int) ≤ (I : Int) - (J : Int)) = true := decide_eq_true (by omega)
        clear hfar
        go_enter Try.func7, Try.ntmps7
        go_wp2_with fail
        refine (c1.out _).mono ?_
        rintro e w1 ⟨rfl, q, rfl⟩
        go_wp2_with fail
        refine (c2.out _).mono ?_
        rintro e w2 ⟨rfl, q2, rfl⟩
        clear c1 c2
        go_wp2_with (go_at_call 11; refine (cA.out _).mono ?_; rintro e w5 ⟨rfl, hb⟩)
        go_ret
        exact ⟨rfl, chain (chainN (Below.refl _ w) (q + q2)) hb⟩
  · have m1' : ¬ (X : Int) - (Y : Int) < (Y : Int) - (X : Int) := by omega
    rcases nr : decide ((X : Int) - (Y : Int) < (Q : Int) - 1) with _ | _
    · clear hsp
      go_enter Try.func7, Try.ntmps7
      go_wp2_with fail
      refine (c1.out _).mono ?_
      rintro e w1 ⟨rfl, q, rfl⟩
      go_wp2_with fail
      refine (c2.out _).mono ?_
      rintro e w2 ⟨rfl, q2, rfl⟩
      clear c1 c2
      go_wp2_with (go_at_call 11; refine (cA.out _).mono ?_; rintro e w5 ⟨rfl, hb⟩)
      go_ret
      exact ⟨rfl, chain (chainN (Below.refl _ w) (q + q2)) hb⟩
    · have nr' := of_decide_eq_true nr
      have hfar := hsp (by omega) (by omega)
      clear hsp
      rcases Int.lt_or_le ((I : Int) - (J : Int)) ((J : Int) - (I : Int)) with m2 | m2
      · have d5 : decide ((R : Int) ≤ (J : Int) - (I : Int)) = true := decide_eq_true (by omega)
        clear hfar
        go_enter Try.func7, Try.ntmps7
        go_wp2_with fail
        refine (c1.out _).mono ?_
        rintro e w1 ⟨rfl, q, rfl⟩
        go_wp2_with fail
        refine (c2.out _).mono ?_
        rintro e w2 ⟨rfl, q2, rfl⟩
        clear c1 c2
        go_wp2_with (go_at_call 11; refine (cA.out _).mono ?_; rintro e w5 ⟨rfl, hb⟩)
        go_ret
        exact ⟨rfl, chain (chainN (Below.refl _ w) (q + q2)) hb⟩
      · have m2' : ¬ (I : Int) - (J : Int) < (J : Int) - (I : Int) := by omega
        have d5 : decide ((R : Int) ≤ (I : Int) - (J : Int)) = true := decide_eq_true (by omega)
        clear hfar
        go_enter Try.func7, Try.ntmps7
        go_wp2_with fail
        refine (c1.out _).mono ?_
        rintro e w1 ⟨rfl, q, rfl⟩
        go_wp2_with fail
        refine (c2.out _).mono ?_
        rintro e w2 ⟨rfl, q2, rfl⟩
        clear c1 c2
        go_wp2_with (go_at_call 11; refine (cA.out _).mono ?_; rintro e w5 ⟨rfl, hb⟩)
        go_ret
        exact ⟨rfl, chain (chainN (Below.refl _ w) (q + q2)) hb⟩
end Go.Proofs.Ythncpflbojoejaa.I11
