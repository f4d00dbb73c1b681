/- The walk of the law ConvcodeShift, under the package's contracts. -/
import Derived.Test.YthbhjbbgghpiaaaC9Law4
namespace Go.Proofs.Ythbhjbbgghpiaaa.C9
open Go.RowKit Mem
set_option linter.unusedVariables false
set_option linter.unusedSimpArgs false

theorem fin_zs : ∀ k : Nat, fin false false (zs k) = (false, false)
  | 0 => rfl
  | k + 1 => by
    have e : zs (k + 1) = false :: zs k := by unfold zs; rw [List.replicate_succ]
    rw [e, ← fin_zs k]
    rfl
theorem enc_front (k : Nat) (m : List Bool) : enc (zs k ++ m) = zs (2 * k) ++ enc m := by
  unfold enc
  rw [List.append_assoc, run_app, run_zs, fin_zs]
theorem enc_zero (l : List Bool) : enc (false :: l) = [false, false] ++ enc l := rfl
theorem wgt_zero (l : List Bool) : wgt (enc (false :: l)) = wgt (enc l) := by
  rw [enc_zero, wgt_app]
  show 0 + _ = _
  omega
theorem enc_burst (k : Nat) : enc (zs k ++ [true] ++ zs k) = zs (2 * k) ++ [true, true, true, false, true, true] ++ zs (2 * k) := by
  rw [List.append_assoc, enc_front, enc_zs, ← List.append_assoc]
  rfl
set_option maxRecDepth 100000 in
set_option maxHeartbeats 8000000 in
theorem walk_shift (D : Dev) (a : ByteArray) (i2 : Int) (w : World) (ha : a.size ≤ 140737488351232) (h2 : (Lit.int .u8 i2).wf = true) :
    Calls Try.prog 10 #[.string a, .int .u8 i2] w fun e w' => e = .returned (.bool true) ∧ Below w.heap.size w w' := by
  obtain ⟨g1, g2⟩ : 0 ≤ i2 ∧ i2 ≤ 255 := (Lit.wf_int_iff .u8 _).1 h2
  obtain ⟨K, rfl⟩ : ∃ K : Nat, i2 = (K : Int) := ⟨i2.toNat, by omega⟩
  have hK : K ≤ 255 := by omega
  have cA := Lib.hid (alive_any D w)
  have c1 := Lib.hid (fun W => D.encode a W (by omega))
  clear h2 g1 g2
  go_enter Try.func10, Try.ntmps10
  go_wp2_with fail
  refine cA.out.mono ?_
  rintro e w1 ⟨rfl, hB⟩
  go_wp2_with fail
  refine (c1.out _).mono ?_
  rintro e w2 ⟨X, k1, hq1, rfl, hb⟩
  replace hB := chain hB hb
  clear hb
  replace hq1 := Lib.hid hq1
  by_cases h1 : a.size ≤ 1000
  · have d1 : decide (1000 < a.size) = false := decide_eq_false (by omega)
    have d1' : decide ((1000 : Int) < (a.size : Int)) = false := decide_eq_false (by omega)
    by_cases h3 : k1 = 0
    · have d3 : (k1 != 0) = false := by rw [h3]; rfl
      obtain ⟨s1, b1, e1⟩ := hq1.out.ok h3
      obtain ⟨l, hl⟩ : ∃ l, tb a = l := ⟨_, rfl⟩
      have hal : sb l = a := by rw [← hl]; exact sb_tb b1
      have hll : l.length = a.size := by rw [← hl, tb_len]
      rw [hl] at e1
      obtain ⟨A0, hA0⟩ : ∃ A0, sb (false :: l) = A0 := ⟨_, rfl⟩
      obtain ⟨X0, hX0⟩ : ∃ X0, sb (enc (false :: l)) = X0 := ⟨_, rfl⟩
      have hXs : X.size = 2 * a.size + 4 := by rw [e1, sb_size, enc_len, hll]
      have hA0s : A0.size = a.size + 1 := by rw [← hA0, sb_size, List.length_cons, hll]
      have r1 : ∀ W, (Op.stringOp .add ⟨#[48]⟩ a).run Try.prog W = .ok (.string A0) W := fun W => by
        rw [Go.run_string_add_sum _ _ _ (by show 1 + a.size ≤ _; omega), ← hA0, ← hal, show (false :: l) = [false] ++ l from rfl, ← sb_app]
        rfl
      have r2 : ∀ W, (Op.stringOp .add ⟨#[48, 48]⟩ X).run Try.prog W = .ok (.string X0) W := fun W => by
        rw [Go.run_string_add_sum _ _ _ (by show 2 + X.size ≤ _; omega), ← hX0, e1, enc_zero, ← sb_app]
        rfl
      have cE := Lib.hid (fun W => D.encode A0 W (by omega))
      have cW1 := Lib.hid (fun W => D.weight a W (by omega))
      have cW2 := Lib.hid (fun W => D.weight A0 W (by omega))
      have hf1 : ∀ S k, EncQ A0 S k → S = X0 ∧ k = 0 := fun S k h => by
        rw [← hA0] at h
        rw [← hX0]
        exact h.sb (by rw [List.length_cons]; omega)
      obtain ⟨V, hV⟩ : ∃ V, wgt (enc l) = V := ⟨_, rfl⟩
      have hf2 : ∀ n k : Int, WgtQ a n k → n = (V : Int) ∧ k = 0 := fun n k h => by
        rw [← hal] at h
        rw [← hV]
        exact h.sb (by omega)
      have hf3 : ∀ n k : Int, WgtQ A0 n k → n = (V : Int) ∧ k = 0 := fun n k h => by
        rw [← hA0] at h
        rw [← hV, ← wgt_zero]
        exact h.sb (by rw [List.length_cons]; omega)
      replace hf1 := Lib.hid hf1
      replace hf2 := Lib.hid hf2
      replace hf3 := Lib.hid hf3
      obtain ⟨R, hR⟩ : ∃ R, K % 20 = R := ⟨_, rfl⟩
      have hR20 : R < 20 := by omega
      have hRI : (K : Int) % 20 = (R : Int) := by omega
      clear hq1 h3 s1 b1 e1 hl hal hll hA0 hX0 hXs hA0s hV hR cA c1
      go_wp2_with fail
      refine (cE.out _).mono ?_
      rintro e w3 ⟨S, k, hq, rfl, hb⟩
      obtain ⟨rfl, rfl⟩ := hf1.out S k hq
      replace hB := chain hB hb
      clear hb hq cE hf1
      go_wp2_with fail
      refine (cW1.out _).mono ?_
      rintro e w4 ⟨n, k, hq, rfl, hb⟩
      obtain ⟨rfl, rfl⟩ := hf2.out n k hq
      replace hB := chain hB hb
      clear hb hq cW1 hf2
      go_wp2_with fail
      refine (cW2.out _).mono ?_
      rintro e w5 ⟨n, k, hq, rfl, hb⟩
      obtain ⟨rfl, rfl⟩ := hf3.out n k hq
      replace hB := chain hB hb
      clear hb hq cW2 hf3 r1
      go_wp2_with fail
      rw [hRI]
      go_loopw [13, 70] (fun z t wr => ∃ j : Nat, j ≤ R ∧ z = .string (sb (zs (2 * j))) ∧ t = .int .u8 j ∧ Below w.heap.size w wr) (fun _ t _ => R - (intOf t).toNat)
      case atStart => exact ⟨0, by omega, rfl, rfl, by first | exact hB | exact chainN hB 1⟩
      case round =>
        obtain ⟨j, hj, rfl, rfl, hb⟩ := hrel
        by_cases hlt : j < R
        · have d5 : decide ((j : Int) < (R : Int)) = true := decide_eq_true (by omega)
          obtain ⟨C, hC⟩ : ∃ C, sb (zs (2 * j)) = C := ⟨_, rfl⟩
          obtain ⟨C1, hC1⟩ : ∃ C1, sb (zs (2 * (j + 1))) = C1 := ⟨_, rfl⟩
          have hCs : C.size = 2 * j := by rw [← hC, sb_size, zs_len]
          have r2 : ∀ W, (Op.stringOp .add C ⟨#[48, 48]⟩).run Try.prog W = .ok (.string C1) W := fun W => by
            rw [Go.run_string_add_sum _ _ _ (by show C.size + 2 ≤ _; omega), ← hC1, show 2 * (j + 1) = 2 * j + 2 by omega, ← zs_add (2 * j) 2, ← sb_app, hC]
            rfl
          rw [hC]
          replace hC1 := Lib.hid hC1
          have u1 : IntKind.u8.wrap ((j : Int) + 1) = (j : Int) + 1 := by rw [IntKind.wrap_u8]; omega
          clear hC
          go_wp2
          go_roundw
          case rel => exact ⟨j + 1, by omega, by rw [hC1.out], by go_num, hb⟩
          case measure => simp [intOf]; omega
        · obtain rfl : j = R := by omega
          have d5 : decide ((j : Int) < (j : Int)) = false := decide_eq_false (by omega)
          obtain ⟨C, hC⟩ : ∃ C, sb (zs (2 * j)) = C := ⟨_, rfl⟩
          obtain ⟨E1, hE1⟩ : ∃ E1, sb (zs (2 * j) ++ [true]) = E1 := ⟨_, rfl⟩
          obtain ⟨E2, hE2⟩ : ∃ E2, sb (zs (2 * j) ++ [true] ++ zs (2 * j)) = E2 := ⟨_, rfl⟩
          obtain ⟨F1, hF1⟩ : ∃ F1, sb (zs (4 * j)) = F1 := ⟨_, rfl⟩
          obtain ⟨F2, hF2⟩ : ∃ F2, sb (zs (4 * j) ++ [true, true, true, false, true, true]) = F2 := ⟨_, rfl⟩
          obtain ⟨F3, hF3⟩ : ∃ F3, sb (zs (4 * j) ++ [true, true, true, false, true, true] ++ zs (2 * j)) = F3 := ⟨_, rfl⟩
          obtain ⟨F4, hF4⟩ : ∃ F4, sb (zs (4 * j) ++ [true, true, true, false, true, true] ++ zs (4 * j)) = F4 := ⟨_, rfl⟩
          have hCs : C.size = 2 * j := by rw [← hC, sb_size, zs_len]
          have hE1s : E1.size = 2 * j + 1 := by rw [← hE1, sb_size, List.length_append, zs_len]; rfl
          have hE2s : E2.size = 4 * j + 1 := by rw [← hE2, sb_size, List.length_append, List.length_append, zs_len]; show 2 * j + 1 + 2 * j = _; omega
          have hF1s : F1.size = 4 * j := by rw [← hF1, sb_size, zs_len]
          have hF2s : F2.size = 4 * j + 6 := by rw [← hF2, sb_size, List.length_append, zs_len]; rfl
          have hF3s : F3.size = 6 * j + 6 := by rw [← hF3, sb_size, List.length_append, List.length_append, zs_len, zs_len]; show 4 * j + 6 + 2 * j = _; omega
          have r3 : ∀ W, (Op.stringOp .add C ⟨#[49]⟩).run Try.prog W = .ok (.string E1) W := fun W => by
            rw [Go.run_string_add_sum _ _ _ (by show C.size + 1 ≤ _; omega), ← hE1, ← sb_app, hC]
            rfl
          have r4 : ∀ W, (Op.stringOp .add E1 C).run Try.prog W = .ok (.string E2) W := fun W => by
            rw [Go.run_string_add_sum _ _ _ (by omega), ← hE2, ← sb_app, hC, hE1]
          have r5 : ∀ W, (Op.stringOp .add C C).run Try.prog W = .ok (.string F1) W := fun W => by
            rw [Go.run_string_add_sum _ _ _ (by omega), ← hF1, show 4 * j = 2 * j + 2 * j by omega, ← zs_add (2 * j) (2 * j), ← sb_app, hC]
          have r6 : ∀ W, (Op.stringOp .add F1 ⟨#[49, 49, 49, 48, 49, 49]⟩).run Try.prog W = .ok (.string F2) W := fun W => by
            rw [Go.run_string_add_sum _ _ _ (by show F1.size + 6 ≤ _; omega), ← hF2, ← sb_app, hF1]
            rfl
          have r7 : ∀ W, (Op.stringOp .add F2 C).run Try.prog W = .ok (.string F3) W := fun W => by
            rw [Go.run_string_add_sum _ _ _ (by omega), ← hF3, ← sb_app, hC, hF2]
          have r8 : ∀ W, (Op.stringOp .add F3 C).run Try.prog W = .ok (.string F4) W := fun W => by
            rw [Go.run_string_add_sum _ _ _ (by omega), ← hF4, ← hF3, ← hC, sb_app, List.append_assoc _ (zs (2 * j)), zs_add, show 2 * j + 2 * j = 4 * j by omega]
          have hfin : ∀ S k, EncQ E2 S k → S = F4 ∧ k = 0 := fun S k h => by
            rw [← hE2] at h
            have h' := h.sb (by rw [List.length_append, List.length_append, zs_len]; show 2 * j + 1 + 2 * j ≤ _; omega)
            rw [enc_burst, show 2 * (2 * j) = 4 * j by omega, hF4] at h'
            exact h'
          have cM := Lib.hid (fun W => D.encode E2 W (by omega))
          replace hfin := Lib.hid hfin
          rw [hC]
          clear hC hE1 hE2 hF1 hF2 hF3 hF4
          go_wp2_with fail
          refine (cM.out _).mono ?_
          rintro e w5 ⟨S, k, hq5, rfl, hb5⟩
          obtain ⟨rfl, rfl⟩ := hfin.out S k hq5
          go_wp2
          go_ret
          exact ⟨rfl, chain hb hb5⟩
    · have d3 : (k1 != 0) = true := by simpa using h3
      go_wp2
      go_ret
      exact ⟨rfl, hB⟩
  · have d1 : decide (1000 < a.size) = true := decide_eq_true (by omega)
    have d1' : decide ((1000 : Int) < (a.size : Int)) = true := decide_eq_true (by omega)
    go_wp2
    go_ret
    exact ⟨rfl, hB⟩
end Go.Proofs.Ythbhjbbgghpiaaa.C9
