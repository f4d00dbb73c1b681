/- The contracts of the reference's functions of layer 3: a bit's step, Update. -/
import Derived.Test.YtnafcicllcmbbaaRows
import Derived.Test.YtnafcicllcmbbaaMem
import Derived.Test.YtnafcicllcmbbaaK3More
import Derived.BigQuiet
import Derived.Deep.QuietTactic
import Derived.WalkSpells
import Derived.WalkLawsBesides
import Derived.Laws.BitsAllLaws
import Derived.Lib.Hide
namespace Go.Proofs.Ytnafcicllcmbbaa.K3
open Go.RowKit Mem
set_option linter.unusedVariables false

theorem stp_hi (x : R) (h : 2147483648 ≤ x.toNat) : (stp x).toNat = (x.toNat * 2 % 4294967296) ^^^ 79764919 := by
  unfold stp
  rw [BitVec.msb_eq_decide, if_pos (decide_eq_true (by simpa using h)), BitVec.toNat_xor, BitVec.toNat_shiftLeft, Nat.shiftLeft_eq]
  rfl
theorem stp_lo (x : R) (h : x.toNat < 2147483648) : (stp x).toNat = x.toNat * 2 := by
  unfold stp
  rw [BitVec.msb_eq_decide, if_neg (by simpa using h), BitVec.toNat_shiftLeft, Nat.shiftLeft_eq]
  omega

theorem bxr (x y : R) : bits .xor .u32 (x.toNat : Int) (y.toNat : Int) = ((x ^^^ y).toNat : Int) := by
  rw [BitVec.toNat_xor]
  exact u32_xor_nat _ _ x.isLt y.isLt
theorem stp_bits {X S : Nat} (h : S = (X * 2 % 4294967296) ^^^ 79764919) : bits .xor .u32 ((X : Int) * 2 % 4294967296) 79764919 = (S : Int) := by
  have e : ((X : Int) * 2 % 4294967296) = ((X * 2 % 4294967296 : Nat) : Int) := by omega
  rw [e, h]
  exact u32_xor_nat (X * 2 % 4294967296) 79764919 (by omega) (by decide)

set_option maxHeartbeats 400000 in
theorem rstep_any (x : R) (w : World) : Calls Try.prog 22 #[.int .u32 (x.toNat : Int)] w fun e w' => e = .returned (.int .u32 ((stp x).toNat : Int)) ∧ w = w' := by
  have hlt := x.isLt
  have hlo := stp_lo x
  have hhi := stp_hi x
  obtain ⟨S, hS⟩ : ∃ S, (stp x).toNat = S := ⟨_, rfl⟩
  rw [hS] at hlo hhi ⊢
  obtain ⟨X, hX⟩ : ∃ X, x.toNat = X := ⟨_, rfl⟩
  rw [hX] at hlo hhi hlt ⊢
  clear hS hX
  have hlo := Lib.hid hlo
  have hhi := Lib.hid hhi
  by_cases h : 2147483648 ≤ X
  · have hd : decide ((2147483648 : Int) ≤ (X : Int)) = true := decide_eq_true (by omega)
    go_enter Try.func22, Try.ntmps22
    go_wp2
    go_ret
    exact ⟨ret_i (stp_bits (hhi.out h)), rfl⟩
  · have hd : decide ((2147483648 : Int) ≤ (X : Int)) = false := decide_eq_false (by omega)
    go_enter Try.func22, Try.ntmps22
    go_wp2
    go_ret
    exact ⟨ret_i (by rw [hlo.out (by omega)]; omega), rfl⟩

theorem byR_toNat (c : UInt8) : (byR c).toNat = c.toNat * 16777216 := by
  have := c.toNat_lt
  unfold byR
  rw [BitVec.toNat_shiftLeft, BitVec.toNat_ofNat, Nat.shiftLeft_eq]
  omega
theorem byte_in (x : R) (c : UInt8) : bits .xor .u32 (x.toNat : Int) ((c.toNat : Int) * 16777216) = ((x ^^^ byR c).toNat : Int) := by
  rw [← bxr, byR_toNat]
  rfl
theorem upd_take (x : R) (s : ByteArray) (k : Nat) (h : k < s.size) : upd x (s.data.toList.take (k + 1)) = it 8 (upd x (s.data.toList.take k) ^^^ byR s[k]) := by
  rw [List.take_succ_eq_append_getElem (by simpa using h), upd_snoc]
  rfl
theorem take_all (s : ByteArray) : s.data.toList.take s.size = s.data.toList := List.take_of_length_le (by simp)

set_option maxHeartbeats 1000000 in
theorem rupdate_any (x : R) (s : ByteArray) (w : World) (hs : s.size ≤ 1000000) :
    Calls Try.prog 13 #[.int .u32 (x.toNat : Int), .string s] w fun e w' => e = .returned (.int .u32 ((upd x s.data.toList).toNat : Int)) ∧ w = w' := by
  go_enter Try.func13, Try.ntmps13
  go_wp2
  go_loop [0, 5] (fun c i => ∃ k : Nat, k ≤ s.size ∧ i = .int .i64 k ∧ c = .int .u32 ((upd x (s.data.toList.take k)).toNat : Int)) (fun _ i => s.size - (intOf i).toNat)
  case atStart => exact ⟨0, Nat.zero_le _, rfl, rfl⟩
  case round =>
    obtain ⟨k, hk, rfl, rfl⟩ := hrel
    by_cases hlt : k < s.size
    · have hn := Lib.hid (upd_take x s k hlt)
      obtain ⟨y, hy⟩ : ∃ y, upd x (s.data.toList.take k) = y := ⟨_, rfl⟩
      rw [hy] at hn ⊢
      have hyl := y.isLt
      have hc := (s[k]).toNat_lt
      have hb := byte_in y s[k]
      obtain ⟨z, hz⟩ : ∃ z, y ^^^ byR s[k] = z := ⟨_, rfl⟩
      rw [hz] at hb hn
      clear hy hz
      go_wp2
      go_loop [0, 6] (fun c i => ∃ j : Nat, j ≤ 8 ∧ i = .int .i64 j ∧ c = .int .u32 ((it j z).toNat : Int)) (fun _ i => 8 - (intOf i).toNat)
      case atStart => exact ⟨0, Nat.zero_le _, rfl, rfl⟩
      case round =>
        clear hb
        obtain ⟨j, hj, rfl, rfl⟩ := hrel
        by_cases hlt2 : j < 8
        · have hs1 := Lib.hid (rstep_any (it j z) w)
          go_wp2_with fail
          refine hs1.out.mono ?_
          rintro e w1 ⟨rfl, rfl⟩
          go_wp2
          go_round
          case rel => exact ⟨j + 1, by omega, by go_num, rfl⟩
          case measure => simp [intOf]; omega
        · have hj' : j = 8 := by omega
          subst hj'
          rw [← hn.out]
          go_wp2
          go_round
          case rel => exact ⟨k + 1, by omega, by go_num, rfl⟩
          case measure => simp [intOf]; omega
    · have hk' : k = s.size := by omega
      subst hk'
      rw [take_all]
      go_wp2
      go_ret
      exact ⟨rfl, rfl⟩
end Go.Proofs.Ytnafcicllcmbbaa.K3
