/- The walk of the law ConvcodeLinear, under the package's contracts. -/
import Derived.Test.YthbhjbbgghpiaaaC9Xor
namespace Go.Proofs.Ythbhjbbgghpiaaa.C9
open Go.RowKit Mem
set_option linter.unusedVariables false
set_option linter.unusedSimpArgs false

set_option maxRecDepth 100000 in
set_option maxHeartbeats 4000000 in
theorem walk_linear (D : Dev) (a b : ByteArray) (w : World) (ha : a.size ≤ 140737488351232) (hb0 : b.size ≤ 140737488351232) :
    Calls Try.prog 7 #[.string a, .string b] w fun e w' => e = .returned (.bool true) ∧ Below w.heap.size w w' := by
  have cA := Lib.hid (alive_any D w)
  have c1 := Lib.hid (fun W => D.encode a W (by omega))
  have c2 := Lib.hid (fun W => D.encode b W (by omega))
  go_enter Try.func7, Try.ntmps7
  go_wp2_with fail
  refine cA.out.mono ?_
  rintro e w1 ⟨rfl, hB⟩
  go_wp2_with fail
  refine (c1.out _).mono ?_
  rintro e w2 ⟨X, k1, hq1, rfl, hb⟩
  replace hB := chain hB hb
  clear hb
  replace hq1 := Lib.hid hq1
  go_wp2_with fail
  refine (c2.out _).mono ?_
  rintro e w3 ⟨Y, k2, hq2, rfl, hb⟩
  replace hB := chain hB hb
  clear hb cA c1 c2
  replace hq2 := Lib.hid hq2
  by_cases h1 : a.size ≤ 1000
  · have d1 : decide (1000 < a.size) = false := decide_eq_false (by omega)
    have d1' : decide ((1000 : Int) < (a.size : Int)) = false := decide_eq_false (by omega)
    by_cases h2 : a.size = b.size
    · have d2 : (a.size != b.size) = false := by rw [h2]; simp
      have d2' : ((a.size : Int) != (b.size : Int)) = false := by rw [h2]; simp
      have h2 := Lib.hid h2
      by_cases h3 : k1 = 0
      · have d3 : (k1 != 0) = false := by rw [h3]; rfl
        by_cases h4 : k2 = 0
        · have d4 : (k2 != 0) = false := by rw [h4]; rfl
          obtain ⟨s1, b1, e1⟩ := hq1.out.ok h3
          obtain ⟨s2, b2, e2⟩ := hq2.out.ok h4
          have hab : (tb a).length = (tb b).length := by rw [tb_len, tb_len]; exact h2.out
          have cX := fun W => xor_any (sb_tb b1).symm (sb_tb b2).symm hab (by rw [tb_len]; omega) W
          have cE := fun W => D.encode (sb (xo (tb a) (tb b))) W (by rw [sb_size, xo_len _ _ hab, tb_len]; omega)
          have cZ := fun W => xor_any e1 e2 (by rw [enc_len, enc_len, hab]) (by rw [enc_len, tb_len]; omega) W
          rw [← enc_xo hab] at cZ
          have hfin : ∀ S k, EncQ (sb (xo (tb a) (tb b))) S k → S = sb (enc (xo (tb a) (tb b))) ∧ k = 0 := fun S k h => h.sb (by rw [xo_len _ _ hab, tb_len]; omega)
          obtain ⟨M, hM⟩ : ∃ M, sb (xo (tb a) (tb b)) = M := ⟨_, rfl⟩
          obtain ⟨Z, hZ⟩ : ∃ Z, sb (enc (xo (tb a) (tb b))) = Z := ⟨_, rfl⟩
          rw [hM] at cX cE hfin
          rw [hZ] at cZ hfin
          replace cX := Lib.hid cX
          replace cE := Lib.hid cE
          replace cZ := Lib.hid cZ
          replace hfin := Lib.hid hfin
          clear hq1 hq2 h2 h3 h4 s1 s2 b1 b2 e1 e2 hab hM hZ
          go_wp2_with fail
          refine (cX.out _).mono ?_
          rintro e w4 ⟨rfl, hb⟩
          replace hB := chain hB hb
          clear hb
          go_wp2_with fail
          refine (cE.out _).mono ?_
          rintro e w5 ⟨S, k, hq, rfl, hb⟩
          obtain ⟨rfl, rfl⟩ := hfin.out S k hq
          replace hB := chain hB hb
          clear hb hq
          go_wp2_with fail
          refine (cZ.out _).mono ?_
          rintro e w6 ⟨rfl, hb⟩
          replace hB := chain hB hb
          clear hb
          go_wp2
          go_ret
          exact ⟨rfl, hB⟩
        · have d4 : (k2 != 0) = true := by simpa using h4
          go_wp2
          go_ret
          exact ⟨rfl, hB⟩
      · have d3 : (k1 != 0) = true := by simpa using h3
        go_wp2
        go_ret
        exact ⟨rfl, hB⟩
    · have d2 : (a.size != b.size) = true := by simpa using h2
      have d2' : ((a.size : Int) != (b.size : Int)) = true := by rw [bne_iff_ne]; omega
      go_wp2
      go_ret
      exact ⟨rfl, hB⟩
  · have d1 : decide (1000 < a.size) = true := decide_eq_true (by omega)
    have d1' : decide ((1000 : Int) < (a.size : Int)) = true := decide_eq_true (by omega)
    go_wp2
    go_ret
    exact ⟨rfl, hB⟩
end Go.Proofs.Ythbhjbbgghpiaaa.C9
