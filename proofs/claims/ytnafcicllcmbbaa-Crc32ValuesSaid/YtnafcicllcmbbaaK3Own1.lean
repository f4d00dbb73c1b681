/- The contracts of the landed functions of layer 3: shift, Update, multiply. -/
import Derived.Test.YtnafcicllcmbbaaK3Dev
namespace Go.Proofs.Ytnafcicllcmbbaa.K3
open Go.RowKit Mem
set_option linter.unusedVariables false

set_option maxHeartbeats 400000 in
theorem shift_any (x : R) (w : World) : Calls Try.prog 21 #[.int .u32 (x.toNat : Int)] w fun e w' => e = .returned (.int .u32 ((stp x).toNat : Int)) ∧ w = w' := by
  have hlt := x.isLt
  have hlo := stp_lo x
  have hhi := stp_hi x
  obtain ⟨S, hS⟩ : ∃ S, (stp x).toNat = S := ⟨_, rfl⟩
  rw [hS] at hlo hhi ⊢
  obtain ⟨X, hX⟩ : ∃ X, x.toNat = X := ⟨_, rfl⟩
  rw [hX] at hlo hhi hlt ⊢
  clear hS hX
  have hlo := Lib.hid hlo
  have hhi := Lib.hid hhi
  by_cases h : 2147483648 ≤ X
  · have hd : (X : Int) / 2147483648 = 1 := by omega
    go_enter Try.func21, Try.ntmps21
    go_wp2
    go_ret
    exact ⟨ret_i (stp_bits (hhi.out h)), rfl⟩
  · have hd : (X : Int) / 2147483648 = 0 := by omega
    go_enter Try.func21, Try.ntmps21
    go_wp2
    go_ret
    exact ⟨ret_i (by
      rw [hlo.out (by omega)]
      have := u32_xor_nat (X * 2) 0 (by omega) (by decide)
      rw [Nat.xor_zero] at this
      exact (show _ = _ from this)), rfl⟩

set_option maxHeartbeats 1000000 in
theorem update_any (x : R) (s : ByteArray) (w : World) (hs : s.size ≤ 1000000) :
    Calls Try.prog 12 #[.int .u32 (x.toNat : Int), .string s] w fun e w' => e = .returned (.int .u32 ((upd x s.data.toList).toNat : Int)) ∧ w = w' := by
  go_enter Try.func12, Try.ntmps12
  go_wp2
  go_loop [0, 8] (fun c i => ∃ k : Nat, k ≤ s.size ∧ i = .int .i64 k ∧ c = .int .u32 ((upd x (s.data.toList.take k)).toNat : Int)) (fun _ i => s.size - (intOf i).toNat)
  case atStart => exact ⟨0, Nat.zero_le _, rfl, rfl⟩
  case round =>
    obtain ⟨k, hk, rfl, rfl⟩ := hrel
    by_cases hlt : k < s.size
    · have hn := Lib.hid (upd_take x s k hlt)
      obtain ⟨y, hy⟩ : ∃ y, upd x (s.data.toList.take k) = y := ⟨_, rfl⟩
      rw [hy] at hn ⊢
      have hyl := y.isLt
      have hc := (s[k]).toNat_lt
      have hb := byte_in y s[k]
      obtain ⟨z, hz⟩ : ∃ z, y ^^^ byR s[k] = z := ⟨_, rfl⟩
      rw [hz] at hb hn
      clear hy hz
      go_wp2
      go_loop [0, 18] (fun c i => ∃ j : Nat, j ≤ 8 ∧ i = .int .i64 j ∧ c = .int .u32 ((it j z).toNat : Int)) (fun _ i => 8 - (intOf i).toNat)
      case atStart => exact ⟨0, Nat.zero_le _, rfl, rfl⟩
      case round =>
        clear hb
        obtain ⟨j, hj, rfl, rfl⟩ := hrel
        by_cases hlt2 : j < 8
        · have hs1 := Lib.hid (shift_any (it j z) w)
          go_wp2_with fail
          refine hs1.out.mono ?_
          rintro e w1 ⟨rfl, rfl⟩
          go_wp2
          go_round
          case rel => exact ⟨j + 1, by omega, by go_num, rfl⟩
          case measure => simp [intOf]; omega
        · have hj' : j = 8 := by omega
          subst hj'
          rw [← hn.out]
          go_wp2
          go_round
          case rel => exact ⟨k + 1, by omega, by go_num, rfl⟩
          case measure => simp [intOf]; omega
    · have hk' : k = s.size := by omega
      subst hk'
      rw [take_all]
      go_wp2
      go_ret
      exact ⟨rfl, rfl⟩

set_option maxHeartbeats 1000000 in
theorem multiply_any (a b : R) (w : World) :
    Calls Try.prog 23 #[.int .u32 (a.toNat : Int), .int .u32 (b.toNat : Int)] w fun e w' => e = .returned (.int .u32 ((tms a b).toNat : Int)) ∧ w = w' := by
  go_enter Try.func23, Try.ntmps23
  go_wp2
  go_loop [5, 7] (fun c i => ∃ j : Nat, j ≤ 32 ∧ i = .int .i64 (j : Int) ∧ c = .int .u32 ((hor a b j).toNat : Int)) (fun _ i => 32 - (intOf i).toNat)
  case atStart => exact ⟨0, Nat.zero_le _, rfl, rfl⟩
  case round =>
    obtain ⟨j, hj, rfl, rfl⟩ := hrel
    by_cases hlt : j < 32
    · obtain ⟨m, hm⟩ : ∃ m : Nat, 31 - j = m := ⟨_, rfl⟩
      have hmi : (31 : Int) - (j : Int) = (m : Int) := by omega
      have hs1 := shift_any (hor a b j) w
      have hb := bit_test b m
      obtain ⟨y, hy⟩ : ∃ y, stp (hor a b j) = y := ⟨_, rfl⟩
      rw [hy] at hs1
      have hs1 := Lib.hid hs1
      have hbl := b.isLt
      have hm31 : m ≤ 31 := by omega
      have hx := bxr y a
      obtain ⟨z, hz⟩ : ∃ z, y ^^^ a = z := ⟨_, rfl⟩
      rw [hz] at hx
      rcases hg : b.getLsbD m with _ | _
      · rw [hg] at hb
        have hn := Lib.hid ((hor_no (a := a) hm hg).trans hy)
        clear hy hz hg hx
        have hmh := Lib.hid hm
        clear hm
        go_wp2_with fail
        refine hs1.out.mono ?_
        rintro e w1 ⟨rfl, rfl⟩
        go_wp2
        go_round
        case rel => exact ⟨j + 1, by omega, by go_num, by rw [hn.out]⟩
        case measure => simp [intOf]; omega
      · rw [hg] at hb
        have hn := Lib.hid ((hor_yes (a := a) hm hg).trans (by rw [hy, hz]))
        clear hy hz hg
        have hmh := Lib.hid hm
        clear hm
        go_wp2_with fail
        refine hs1.out.mono ?_
        rintro e w1 ⟨rfl, rfl⟩
        go_wp2
        go_round
        case rel => exact ⟨j + 1, by omega, by go_num, by rw [hn.out]⟩
        case measure => simp [intOf]; omega
    · have hj' : j = 32 := by omega
      subst hj'
      go_wp2
      go_ret
      exact ⟨rfl, rfl⟩
end Go.Proofs.Ytnafcicllcmbbaa.K3
