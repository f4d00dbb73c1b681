/- The contracts of the landed functions of layer 5: Add, double, Mul. -/
import Derived.Test.YtcfoclmkhippoaaG5Val
import Derived.Test.YtcfoclmkhippoaaG5Fun
namespace Go.Proofs.Ytcfoclmkhippoaa.G5
set_option maxRecDepth 100000
open Go.RowKit Mem
set_option linter.unusedVariables false
set_option linter.unusedSimpArgs false

theorem add_own (a b : R) (w : World) : Calls Try.prog 62 #[bv a, bv b] w fun e w' => e = .returned (bv (a ^^^ b)) ∧ w = w' := by
  have h := bxr a b
  obtain ⟨S, hS⟩ : ∃ S, a ^^^ b = S := ⟨_, rfl⟩
  rw [hS] at h ⊢
  have h := Lib.hid h
  go_enter Try.func62, Try.ntmps62
  go_wp2
  go_ret
  exact ⟨rfl, rfl⟩

theorem double_own (x : R) (w : World) : Calls Try.prog 66 #[bv x] w fun e w' => e = .returned (bv (stp x)) ∧ w = w' := by
  have hlt := x.isLt
  have hlo := stp_lo x
  have hhi := stp_hi x
  obtain ⟨S, hS⟩ : ∃ S, (stp x).toNat = S := ⟨_, rfl⟩
  rw [bv, bv, hS]
  rw [hS] at hlo hhi
  obtain ⟨X, hX⟩ : ∃ X, x.toNat = X := ⟨_, rfl⟩
  rw [hX] at hlo hhi hlt ⊢
  clear hS hX
  have hloh := Lib.hid hlo
  have hhih := Lib.hid hhi
  clear hlo hhi
  by_cases h : 128 ≤ X
  · have hd : (X : Int) / 128 = 1 := by omega
    go_enter Try.func66, Try.ntmps66
    go_wp2
    go_ret
    exact ⟨ret_i (by
      rw [hhih.out h]
      exact u8_xor_nat (X * 2 % 256) 29 (by omega) (by decide)), rfl⟩
  · have hd : (X : Int) / 128 = 0 := by omega
    go_enter Try.func66, Try.ntmps66
    go_wp2
    go_ret
    exact ⟨ret_i (by
      rw [hloh.out (by omega)]
      have := u8_xor_nat (X * 2) 0 (by omega) (by decide)
      rw [Nat.xor_zero] at this
      exact (show _ = _ from this)), rfl⟩

theorem hor_one (a b : R) (j m : Nat) (hm : 7 - j = m) (h : b.getLsbD m = true) : hor a b (j + 1) = stp (hor a b j) ^^^ a := by
  subst hm
  show (if _ then _ else _) = _
  rw [h, if_pos rfl]
theorem hor_none (a b : R) (j m : Nat) (hm : 7 - j = m) (h : b.getLsbD m = false) : hor a b (j + 1) = stp (hor a b j) := by
  subst hm
  show (if _ then _ else _) = _
  rw [h, if_neg (by decide)]

set_option maxHeartbeats 1000000 in
theorem mul_own (a b : R) (w : World) : Calls Try.prog 63 #[bv a, bv b] w fun e w' => e = .returned (bv (tms a b)) ∧ w = w' := by
  have ha := a.isLt
  have hb := b.isLt
  go_enter Try.func63, Try.ntmps63
  go_wp2
  go_loop [5, 8] (fun p k => ∃ j : Nat, j ≤ 8 ∧ k = .int .i64 j ∧ p = .int .u8 ((hor a b j).toNat : Int)) (fun _ k => 8 - (intOf k).toNat)
  case atStart => exact ⟨0, Nat.zero_le _, rfl, rfl⟩
  case round =>
    obtain ⟨j, hj, rfl, rfl⟩ := hrel
    by_cases hlt : j < 8
    · obtain ⟨m, hm⟩ : ∃ m, 7 - j = m := ⟨_, rfl⟩
      have hmi : (7 : Int) - (j : Int) = (m : Int) := by omega
      have hmlt : m < 8 := by omega
      have c := double_own (hor a b j) w
      have hv := bit_val b m
      rcases hbit : b.getLsbD m with _ | _
      · rw [hbit, if_neg (by decide)] at hv
        have hn := Lib.hid (hor_none a b j m hm hbit)
        have hx := bxr (stp (hor a b j)) 0#8
        rw [BitVec.xor_zero] at hx
        obtain ⟨G, hG⟩ : ∃ G, stp (hor a b j) = G := ⟨_, rfl⟩
        rw [hG] at c hx
        have hGl := G.isLt
        have hGh := Lib.hid hG
        have c := Lib.hid c
        have hxh := Lib.hid hx
        clear hbit hm hG hx
        go_wp2_with fail
        refine c.out.mono ?_
        rintro e w1 ⟨rfl, rfl⟩
        go_wp2
        go_round
        case rel => exact ⟨j + 1, by omega, by go_num, by rw [hn.out, hGh.out]; exact congrArg _ hxh.out⟩
        case measure => simp [intOf]; omega
      · rw [hbit, if_pos rfl] at hv
        have hn := Lib.hid (hor_one a b j m hm hbit)
        have hx := bxr (stp (hor a b j)) a
        obtain ⟨G, hG⟩ : ∃ G, stp (hor a b j) = G := ⟨_, rfl⟩
        rw [hG] at c hx
        have hGl := G.isLt
        have hGh := Lib.hid hG
        have c := Lib.hid c
        have hxh := Lib.hid hx
        clear hbit hm hG hx
        go_wp2_with fail
        refine c.out.mono ?_
        rintro e w1 ⟨rfl, rfl⟩
        go_wp2
        go_round
        case rel => exact ⟨j + 1, by omega, by go_num, by rw [hn.out, hGh.out]; exact congrArg _ hxh.out⟩
        case measure => simp [intOf]; omega
    · obtain rfl : j = 8 := by omega
      go_wp2
      go_ret
      exact ⟨rfl, rfl⟩

end Go.Proofs.Ytcfoclmkhippoaa.G5
