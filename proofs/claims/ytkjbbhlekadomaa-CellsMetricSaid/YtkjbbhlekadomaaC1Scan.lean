/- The contracts of the functions of layer 1 that only read a string: Check and Unreadable of the package and of the reference. -/
import Derived.Test.YtkjbbhlekadomaaRows
import Derived.Test.YtkjbbhlekadomaaC1Math
import Derived.WalkKit
import Derived.BigQuiet
import Derived.Deep.QuietTactic
import Derived.WalkSpells
import Derived.WalkLawsBesides
import Derived.Lib.Hide
namespace Go.Proofs.Ytkjbbhlekadomaa.C1
open Go.RowKit

set_option maxHeartbeats 400000 in
theorem check_any (s : ByteArray) (w : World) (hs : s.size ≤ 1000000) :
    Calls Try.prog 12 #[.string s] w fun e w' => e = .returned (.int .i64 (chk s.data.toList)) ∧ w = w' := by
  go_enter Try.func12, Try.ntmps12
  go_wp2
  go_loop [6] (fun i => ∃ k : Nat, k ≤ s.size ∧ i = .int .i64 k ∧ (s.data.toList.take k).all okB = true) (fun i => s.size - (intOf i).toNat)
  case atStart => exact ⟨0, Nat.zero_le _, rfl, rfl⟩
  case round =>
    obtain ⟨k, hk, rfl, hall⟩ := hrel
    by_cases hlt : k < s.size
    · go_wp2
      all_goals first
        | (go_round
           case rel => exact ⟨k + 1, by omega, by go_num, all_snoc s k hlt hall (by first | exact okB_yes1 (by assumption) | exact okB_yes2 (by assumption) | exact okB_yes3 (by assumption))⟩
           case measure => simp [intOf]; omega)
        | (go_ret
           exact ⟨ret_int (chk_bad s k hlt (okB_no (by assumption) (by assumption) (by assumption))).symm, rfl⟩)
    · go_wp2
      go_ret
      exact ⟨ret_int (chk_good s (by rw [show s.size = k by omega]; exact hall)).symm, rfl⟩

set_option maxHeartbeats 400000 in
theorem unreadable_any (s : ByteArray) (w : World) (hs : s.size ≤ 1000000) :
    Calls Try.prog 14 #[.string s] w fun e w' => e = .returned (.int .i64 (unr s.data.toList)) ∧ w = w' := by
  go_enter Try.func14, Try.ntmps14
  go_wp2
  go_loop [3, 7] (fun n i => ∃ k : Nat, k ≤ s.size ∧ i = .int .i64 k ∧ n = .int .i64 (unr (s.data.toList.take k))) (fun _ i => s.size - (intOf i).toNat)
  case atStart => exact ⟨0, Nat.zero_le _, rfl, rfl⟩
  case round =>
    obtain ⟨k, hk, rfl, rfl⟩ := hrel
    have hu := unr_le (s.data.toList.take k)
    have hl : (s.data.toList.take k).length ≤ k := List.length_take_le _ _
    by_cases hlt : k < s.size
    · go_wp2
      all_goals
        go_round
        case rel => exact ⟨k + 1, by omega, by go_num, by first | (rw [unr_snoc_yes s k hlt (by assumption)]; go_num) | rw [unr_snoc_no s k hlt (by assumption)]⟩
        case measure => simp [intOf]; omega
    · go_wp2
      go_ret
      exact ⟨ret_int (by rw [show k = s.size by omega, take_all]), rfl⟩

set_option maxHeartbeats 400000 in
theorem runreadable_any (s : ByteArray) (w : World) (hs : s.size ≤ 1000000) :
    Calls Try.prog 15 #[.string s] w fun e w' => e = .returned (.int .i64 (unr s.data.toList)) ∧ w = w' := by
  go_enter Try.func15, Try.ntmps15
  go_wp2
  go_loop [3, 4] (fun n i => ∃ k : Nat, k ≤ s.size ∧ i = .int .i64 k ∧ n = .int .i64 (unr (s.data.toList.take k))) (fun _ i => s.size - (intOf i).toNat)
  case atStart => exact ⟨0, Nat.zero_le _, rfl, rfl⟩
  case round =>
    obtain ⟨k, hk, rfl, rfl⟩ := hrel
    have hu := unr_le (s.data.toList.take k)
    have hl : (s.data.toList.take k).length ≤ k := List.length_take_le _ _
    by_cases hlt : k < s.size
    · go_wp2
      all_goals
        go_round
        case rel => exact ⟨k + 1, by omega, by go_num, by first | (rw [unr_snoc_yes s k hlt (by assumption)]; go_num) | rw [unr_snoc_no s k hlt (by assumption)]⟩
        case measure => simp [intOf]; omega
    · go_wp2
      go_ret
      exact ⟨ret_int (by rw [show k = s.size by omega, take_all]), rfl⟩

set_option maxHeartbeats 1000000 in
theorem rcheck_any (s : ByteArray) (w : World) (hs : s.size ≤ 1000000) :
    Calls Try.prog 13 #[.string s] w fun e w' => e = .returned (.int .i64 (chk s.data.toList)) ∧ w = w' := by
  go_enter Try.func13, Try.ntmps13
  go_wp2
  go_loop [3] (fun i => ∃ k : Nat, k ≤ s.size ∧ i = .int .i64 k ∧ (s.data.toList.take k).all okB = true) (fun i => s.size - (intOf i).toNat)
  case atStart => exact ⟨0, Nat.zero_le _, rfl, rfl⟩
  case round =>
    obtain ⟨k, hk, rfl, hall⟩ := hrel
    by_cases hlt : k < s.size
    · rcases h1 : (((s[k]).toNat : Int) == 48) with _ | _
      · have h1' := ne_of_no h1
        rcases h2 : (((s[k]).toNat : Int) == 49) with _ | _
        · have h2' := ne_of_no h2
          rcases h3 : (((s[k]).toNat : Int) == 63) with _ | _
          · have h3' := ne_of_no h3
            have hbad := Lib.hid (chk_bad s k hlt (okB_no h1 h2 h3))
            go_wp2
            go_ret
            exact ⟨ret_int hbad.out.symm, rfl⟩
          · have h3' := ne_of_eq h3
            have hall' := all_snoc s k hlt hall (okB_yes3 h3)
            go_wp2
            go_round
            case rel => exact ⟨k + 1, by omega, by go_num, hall'⟩
            case measure => simp [intOf]; omega
        · have h2' := ne_of_eq h2
          have hall' := all_snoc s k hlt hall (okB_yes2 h2)
          go_wp2
          go_round
          case rel => exact ⟨k + 1, by omega, by go_num, hall'⟩
          case measure => simp [intOf]; omega
      · have h1' := ne_of_eq h1
        have hall' := all_snoc s k hlt hall (okB_yes1 h1)
        go_wp2
        go_round
        case rel => exact ⟨k + 1, by omega, by go_num, hall'⟩
        case measure => simp [intOf]; omega
    · go_wp2
      go_ret
      exact ⟨ret_int (chk_good s (by rw [show s.size = k by omega]; exact hall)).symm, rfl⟩

theorem i48 (c : UInt8) (h : ((c.toNat : Int) == 48) = true) : c = 48 := by
  apply UInt8.toNat_inj.1
  have : ((c.toNat : Int)) = 48 := by simpa using h
  show c.toNat = 48
  omega
theorem i49 (c : UInt8) (h : ((c.toNat : Int) == 49) = true) : c = 49 := by
  apply UInt8.toNat_inj.1
  have : ((c.toNat : Int)) = 49 := by simpa using h
  show c.toNat = 49
  omega
theorem n48 (c : UInt8) (h : ((c.toNat : Int) == 48) = false) : c ≠ 48 := by
  rintro rfl
  simp at h
theorem n49 (c : UInt8) (h : ((c.toNat : Int) == 49) = false) : c ≠ 49 := by
  rintro rfl
  simp at h

set_option maxHeartbeats 400000 in
theorem invertCell_any (c : UInt8) (w : World) :
    Calls Try.prog 28 #[.int .u8 c.toNat] w fun e w' => e = .returned (.int .u8 (invC c).toNat) ∧ w = w' := by
  rcases h1 : ((c.toNat : Int) == 48) with _ | _
  · rcases h2 : ((c.toNat : Int) == 49) with _ | _
    · have hv := Lib.hid (show invC c = c by unfold invC; rw [if_neg (n48 c h1), if_neg (n49 c h2)])
      go_enter Try.func28, Try.ntmps28
      go_wp2
      go_ret
      exact ⟨ret_int (by rw [hv.out]), rfl⟩
    · obtain rfl := i49 c h2
      go_enter Try.func28, Try.ntmps28
      go_wp2
      go_ret
      exact ⟨rfl, rfl⟩
  · obtain rfl := i48 c h1
    go_enter Try.func28, Try.ntmps28
    go_wp2
    go_ret
    exact ⟨rfl, rfl⟩
end Go.Proofs.Ytkjbbhlekadomaa.C1
