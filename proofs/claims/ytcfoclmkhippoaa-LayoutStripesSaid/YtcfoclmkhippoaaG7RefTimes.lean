/- The contract of the reference's Times of layer 7. -/
import Derived.Test.YtcfoclmkhippoaaG6Sl
import Derived.Test.YtcfoclmkhippoaaG7El
import Derived.Deep.QuietTactic
import Derived.BigQuiet
namespace Go.Proofs.Ytcfoclmkhippoaa.G7
set_option maxRecDepth 100000
open Go.Proofs.Ytcfoclmkhippoaa.G5
open Go.RowKit Mem
set_option linter.unusedVariables false
set_option linter.unusedSimpArgs false

set_option maxHeartbeats 1000000 in
theorem rtimes_any (a b : R) (w : World) : Calls Try.prog 54 #[bv a, bv b] w fun e w' => e = .returned (bv (tms a b)) ∧ w = w' := by
  rw [← rm_eq]
  have ha := a.isLt
  have hb := b.isLt
  go_enter Try.func54, Try.ntmps54
  go_wp2
  go_loop [6, 7] (fun p k => ∃ j : Nat, j ≤ 8 ∧ k = .int .i64 j ∧ p = .int .i64 ((up a b j).toNat : Int)) (fun _ k => 8 - (intOf k).toNat)
  case atStart => exact ⟨0, Nat.zero_le _, rfl, rfl⟩
  case round =>
    obtain ⟨j, hj, rfl, rfl⟩ := hrel
    by_cases hlt : j < 8
    · have hu := up_term a j hlt
      have hp2 : (2 : Int) ^ j ≤ 128 := by
        have : ∀ j, j < 8 → (2 : Int) ^ j ≤ 128 := by decide
        exact this j hlt
      have hul := (up a b j).isLt
      rcases hbit : b.getLsbD j with _ | _
      · have hup := Lib.hid (show up a b (j + 1) = up a b j by show (if b.getLsbD j then _ else _) = _; rw [hbit]; rfl)
        have ht : (bits .and .u8 ((b.toNat : Int) / 2 ^ j) 1 == 1) = false := by rw [u8_and1, bit_test, hbit]
        clear hbit hu
        go_wp2
        go_round
        case rel => exact ⟨j + 1, by omega, by go_num, by rw [hup.out]⟩
        case measure => simp [intOf]; omega
      · have hup := Lib.hid (show up a b (j + 1) = up a b j ^^^ (a.setWidth 16 <<< j) by show (if b.getLsbD j then _ else _) = _; rw [hbit]; rfl)
        have hx := bxr16 (up a b j) (a.setWidth 16 <<< j)
        rw [hu, ← hup.out] at hx
        have hx := Lib.hid hx
        have ht : (bits .and .u8 ((b.toNat : Int) / 2 ^ j) 1 == 1) = true := by rw [u8_and1, bit_test, hbit]
        clear hbit hu
        go_wp2
        go_round
        case rel => exact ⟨j + 1, by omega, by go_num, congrArg (Value.int .i64) (by rw [G5.wrap_small (by have := up_term a j hlt; omega) (by have := up_term a j hlt; have := (a.setWidth 16 <<< j : BitVec 16).isLt; omega)]; exact hx.out)⟩
        case measure => simp [intOf]; omega
    · obtain rfl : j = 8 := by omega
      go_wp2
      go_loop [6, 8] (fun p k => ∃ d : Nat, 7 ≤ d ∧ d ≤ 14 ∧ k = .int .i64 d ∧ p = .int .i64 ((dn (up a b 8) (14 - d)).toNat : Int)) (fun _ k => (intOf k).toNat)
      case atStart => exact ⟨14, by decide, by decide, rfl, rfl⟩
      case round =>
        obtain ⟨d, hd7, hd14, rfl, rfl⟩ := hrel
        by_cases hlt : 8 ≤ d
        · obtain ⟨j, hj⟩ : ∃ j, 14 - d = j := ⟨_, rfl⟩
          have hd : d = 14 - j := by omega
          have hj1 : 14 - (d - 1) = j + 1 := by omega
          have hu := dn_term j (by omega)
          have hp2 : (0 : Int) ≤ 285 * 2 ^ (6 - j) ∧ (285 : Int) * 2 ^ (6 - j) < 65536 := by
            have : ∀ j, j < 7 → (0 : Int) ≤ 285 * 2 ^ (6 - j) ∧ (285 : Int) * 2 ^ (6 - j) < 65536 := by decide
            exact this j (by omega)
          have hw := G5.wrap_small hp2.1 hp2.2
          rw [show 6 - j = d - 8 by omega] at hw hu
          have hw := Lib.hid hw
          clear hp2
          rw [hj]
          have hul := (dn (up a b 8) j).isLt
          rcases hbit : (dn (up a b 8) j).getLsbD (14 - j) with _ | _
          · have hup := Lib.hid (show dn (up a b 8) (j + 1) = dn (up a b 8) j by show (if (dn (up a b 8) j).getLsbD (14 - j) then _ else _) = _; rw [hbit]; rfl)
            have ht : (bits .and .i64 (((dn (up a b 8) j).toNat : Int) / 2 ^ d) 1 == 1) = false := by rw [i64_and1, bit_test, hd, hbit]
            have hjh := Lib.hid hj1
            clear hbit hu hd hj hj1
            go_wp2
            go_round
            case rel => exact ⟨d - 1, by omega, by omega, by go_num, by rw [hjh.out, hup.out]⟩
            case measure => simp [intOf]; omega
          · have hup := Lib.hid (show dn (up a b 8) (j + 1) = dn (up a b 8) j ^^^ (285#16 <<< (6 - j)) by show (if (dn (up a b 8) j).getLsbD (14 - j) then _ else _) = _; rw [hbit]; rfl)
            have hx := bxr16 (dn (up a b 8) j) (285#16 <<< (6 - j))
            rw [← hup.out, show (6 - j) = d - 8 by omega, hu] at hx
            have hx := Lib.hid hx
            have ht : (bits .and .i64 (((dn (up a b 8) j).toNat : Int) / 2 ^ d) 1 == 1) = true := by rw [i64_and1, bit_test, hd, hbit]
            have hjh := Lib.hid hj1
            clear hbit hu hd hj hj1
            go_wp2
            go_round
            case rel => exact ⟨d - 1, by omega, by omega, by go_num, by rw [hjh.out]⟩
            case measure => simp [intOf]; omega
        · obtain rfl : d = 7 := by omega
          have hm : ((dn (up a b 8) 7).setWidth 8).toNat = (dn (up a b 8) 7).toNat % 256 := by rw [BitVec.toNat_setWidth]
          have hm := Lib.hid hm
          go_wp2
          go_ret
          exact ⟨ret_i (by show _ = (((dn (up a b 8) 7).setWidth 8).toNat : Int); rw [hm.out]; first | done | omega), rfl⟩

end Go.Proofs.Ytcfoclmkhippoaa.G7
