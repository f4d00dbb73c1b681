/- The contracts of the reference's functions of layer 7: Times, Power, Value. -/
import Derived.Test.YtkobcffkgaodbaaG6Sl
import Derived.Test.YtkobcffkgaodbaaG7El
import Derived.Deep.QuietTactic
import Derived.BigQuiet
namespace Go.Proofs.Ytkobcffkgaodbaa.G7
open Go.Proofs.Ytkobcffkgaodbaa.G5
open Go.RowKit Mem
set_option linter.unusedVariables false
set_option linter.unusedSimpArgs false

set_option maxHeartbeats 1000000 in
theorem rtimes_any (a b : R) (w : World) : Calls Try.prog 72 #[bv a, bv b] w fun e w' => e = .returned (bv (tms a b)) ∧ w = w' := by
  rw [← rm_eq]
  have ha := a.isLt
  have hb := b.isLt
  go_enter Try.func72, Try.ntmps72
  go_wp2
  go_loop [6, 7] (fun p k => ∃ j : Nat, j ≤ 8 ∧ k = .int .i64 j ∧ p = .int .i64 ((up a b j).toNat : Int)) (fun _ k => 8 - (intOf k).toNat)
  case atStart => exact ⟨0, Nat.zero_le _, rfl, rfl⟩
  case round =>
    obtain ⟨j, hj, rfl, rfl⟩ := hrel
    by_cases hlt : j < 8
    · have hu := up_term a j hlt
      have hp2 : (2 : Int) ^ j ≤ 128 := by
        have : ∀ j, j < 8 → (2 : Int) ^ j ≤ 128 := by decide
        exact this j hlt
      have hul := (up a b j).isLt
      rcases hbit : b.getLsbD j with _ | _
      · have hup := Lib.hid (show up a b (j + 1) = up a b j by show (if b.getLsbD j then _ else _) = _; rw [hbit]; rfl)
        have ht : (bits .and .u8 ((b.toNat : Int) / 2 ^ j) 1 == 1) = false := by rw [u8_and1, bit_test, hbit]
        clear hbit hu
        go_wp2
        go_round
        case rel => exact ⟨j + 1, by omega, by go_num, by rw [hup.out]⟩
        case measure => simp [intOf]; omega
      · have hup := Lib.hid (show up a b (j + 1) = up a b j ^^^ (a.setWidth 16 <<< j) by show (if b.getLsbD j then _ else _) = _; rw [hbit]; rfl)
        have hx := bxr16 (up a b j) (a.setWidth 16 <<< j)
        rw [hu, ← hup.out] at hx
        have hx := Lib.hid hx
        have ht : (bits .and .u8 ((b.toNat : Int) / 2 ^ j) 1 == 1) = true := by rw [u8_and1, bit_test, hbit]
        clear hbit hu
        go_wp2
        go_round
        case rel => exact ⟨j + 1, by omega, by go_num, congrArg (Value.int .i64) (by rw [G5.wrap_small (by have := up_term a j hlt; omega) (by have := up_term a j hlt; have := (a.setWidth 16 <<< j : BitVec 16).isLt; omega)]; exact hx.out)⟩
        case measure => simp [intOf]; omega
    · obtain rfl : j = 8 := by omega
      go_wp2
      go_loop [6, 8] (fun p k => ∃ d : Nat, 7 ≤ d ∧ d ≤ 14 ∧ k = .int .i64 d ∧ p = .int .i64 ((dn (up a b 8) (14 - d)).toNat : Int)) (fun _ k => (intOf k).toNat)
      case atStart => exact ⟨14, by decide, by decide, rfl, rfl⟩
      case round =>
        obtain ⟨d, hd7, hd14, rfl, rfl⟩ := hrel
        by_cases hlt : 8 ≤ d
        · obtain ⟨j, hj⟩ : ∃ j, 14 - d = j := ⟨_, rfl⟩
          have hd : d = 14 - j := by omega
          have hj1 : 14 - (d - 1) = j + 1 := by omega
          have hu := dn_term j (by omega)
          have hp2 : (0 : Int) ≤ 285 * 2 ^ (6 - j) ∧ (285 : Int) * 2 ^ (6 - j) < 65536 := by
            have : ∀ j, j < 7 → (0 : Int) ≤ 285 * 2 ^ (6 - j) ∧ (285 : Int) * 2 ^ (6 - j) < 65536 := by decide
            exact this j (by omega)
          have hw := G5.wrap_small hp2.1 hp2.2
          rw [show 6 - j = d - 8 by omega] at hw hu
          have hw := Lib.hid hw
          clear hp2
          rw [hj]
          have hul := (dn (up a b 8) j).isLt
          rcases hbit : (dn (up a b 8) j).getLsbD (14 - j) with _ | _
          · have hup := Lib.hid (show dn (up a b 8) (j + 1) = dn (up a b 8) j by show (if (dn (up a b 8) j).getLsbD (14 - j) then _ else _) = _; rw [hbit]; rfl)
            have ht : (bits .and .i64 (((dn (up a b 8) j).toNat : Int) / 2 ^ d) 1 == 1) = false := by rw [i64_and1, bit_test, hd, hbit]
            have hjh := Lib.hid hj1
            clear hbit hu hd hj hj1
            go_wp2
            go_round
            case rel => exact ⟨d - 1, by omega, by omega, by go_num, by rw [hjh.out, hup.out]⟩
            case measure => simp [intOf]; omega
          · have hup := Lib.hid (show dn (up a b 8) (j + 1) = dn (up a b 8) j ^^^ (285#16 <<< (6 - j)) by show (if (dn (up a b 8) j).getLsbD (14 - j) then _ else _) = _; rw [hbit]; rfl)
            have hx := bxr16 (dn (up a b 8) j) (285#16 <<< (6 - j))
            rw [← hup.out, show (6 - j) = d - 8 by omega, hu] at hx
            have hx := Lib.hid hx
            have ht : (bits .and .i64 (((dn (up a b 8) j).toNat : Int) / 2 ^ d) 1 == 1) = true := by rw [i64_and1, bit_test, hd, hbit]
            have hjh := Lib.hid hj1
            clear hbit hu hd hj hj1
            go_wp2
            go_round
            case rel => exact ⟨d - 1, by omega, by omega, by go_num, by rw [hjh.out]⟩
            case measure => simp [intOf]; omega
        · obtain rfl : d = 7 := by omega
          have hm : ((dn (up a b 8) 7).setWidth 8).toNat = (dn (up a b 8) 7).toNat % 256 := by rw [BitVec.toNat_setWidth]
          have hm := Lib.hid hm
          go_wp2
          go_ret
          exact ⟨ret_i (by show _ = (((dn (up a b 8) 7).setWidth 8).toNat : Int); rw [hm.out]; first | done | omega), rfl⟩

theorem rpower2_any (j : Nat) (w : World) : Calls Try.prog 72 #[.int .u8 ((it j 1).toNat : Int), .int .u8 2] w fun e w' => e = .returned (.int .u8 ((it (j + 1) 1).toNat : Int)) ∧ w = w' := by
  have h := rtimes_any (it j 1) 2#8 w
  rw [show tms (it j 1) 2#8 = it (j + 1) 1 by rw [show (2#8 : R) = it 1 1 by decide, it_tms]] at h
  exact h
theorem rpower_any (n : Nat) (w : World) (hn : n ≤ 100000) : Calls Try.prog 54 #[.int .i64 (n : Int)] w fun e w' => e = .returned (bv (it n 1)) ∧ w = w' := by
  go_enter Try.func54, Try.ntmps54
  go_wp2
  go_loop [3, 4] (fun p i => ∃ j : Nat, j ≤ n ∧ i = .int .i64 j ∧ p = .int .u8 ((it j 1).toNat : Int)) (fun _ i => n - (intOf i).toNat)
  case atStart => exact ⟨0, Nat.zero_le _, rfl, rfl⟩
  case round =>
    obtain ⟨j, hj, rfl, rfl⟩ := hrel
    by_cases hlt : j < n
    · have c := Lib.hid (rpower2_any j w)
      go_wp2_with fail
      refine c.out.mono ?_
      rintro e w1 ⟨rfl, rfl⟩
      go_wp2
      go_round
      case rel => exact ⟨j + 1, by omega, by go_num, rfl⟩
      case measure => simp [intOf]; omega
    · obtain rfl : j = n := by omega
      go_wp2
      go_ret
      exact ⟨rfl, rfl⟩

set_option maxHeartbeats 1000000 in
theorem rvalue_any (s : ByteArray) (x : R) (w : World) (hs : s.size ≤ 100000) : Calls Try.prog 53 #[.string s, bv x] w fun e w' => e = .returned (bv (vl (el s) x)) ∧ ∃ m, w' = w.drewN m := by
  go_enter Try.func53, Try.ntmps53
  go_wp2
  go_loopw [5, 6] (fun p i wr => ∃ k m : Nat, k ≤ s.size ∧ i = .int .i64 k ∧ p = .int .u8 ((vl ((el s).take k) x).toNat : Int) ∧ Hid (wr = w.drewN m)) (fun _ i _ => s.size - (intOf i).toNat)
  case atStart => exact ⟨0, 0, Nat.zero_le _, rfl, rfl, Lib.hid rfl⟩
  case round =>
    obtain ⟨k, m, hk, rfl, rfl, hw⟩ := hrel
    by_cases hlt : k < s.size
    · obtain ⟨X, hX⟩ : ∃ X, (el s).getD k 0 = X := ⟨_, rfl⟩
      have hb := byte_val s k hlt X hX
      have ht := take_el s k hlt
      rw [hX] at ht
      have hv : vl ((el s).take (k + 1)) x = tms (vl ((el s).take k) x) x ^^^ X := by rw [ht, vl_snoc]
      obtain ⟨V, hV⟩ : ∃ V, vl ((el s).take k) x = V := ⟨_, rfl⟩
      rw [hV] at hv ⊢
      have c := fun W => (rtimes_any V x W).mono fun _ _ ⟨a, b⟩ => And.intro a b.symm
      obtain ⟨T, hT⟩ : ∃ T, tms V x = T := ⟨_, rfl⟩
      rw [hT] at c hv
      have hx := bxr T X
      rw [← hv] at hx
      have hv := Lib.hid hx
      have c := Lib.hid c
      have hi0 : (0 : Int) ≤ (k : Int) := by omega
      have hi1 : (k : Int) < (s.size : Int) := by omega
      clear hX ht hV hT hx
      go_wp2
      go_quiet ((go_at_call 72; exact Calls.quiet_of_same (c.out _)))
      go_wp2
      rename_i nq _
      go_roundw
      case rel => exact ⟨k + 1, m + nq, by omega, by go_num, congrArg (Value.int .u8) hv.out, Lib.hid (by rw [hw.out]; exact drewN_drewN w m nq)⟩
      case measure => simp [intOf]; omega
    · have hi1 : ¬ (k : Int) < (s.size : Int) := by omega
      have hfin := Lib.hid (show vl (el s) x = vl ((el s).take k) x by rw [List.take_of_length_le (by rw [el_len]; omega)])
      go_wp2
      go_ret
      exact ⟨by rw [hfin.out]; rfl, m, hw.out⟩
end Go.Proofs.Ytkobcffkgaodbaa.G7
