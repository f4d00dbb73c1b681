/- The contract of layer 1's Check. -/
import Derived.Test.YthncpflbojoejaaRows
import Derived.Test.YthncpflbojoejaaC1Math
import Derived.WalkKit
import Derived.BigQuiet
import Derived.Deep.QuietTactic
import Derived.WalkSpells
import Derived.WalkLawsBesides
import Derived.Lib.Hide
namespace Go.Proofs.Ythncpflbojoejaa.C1
open Go.RowKit

set_option maxHeartbeats 400000 in
theorem check_wide (s : ByteArray) (w : World) (hs : s.size ≤ 140737488351232) :
    Calls Try.prog 18 #[.string s] w fun e w' => e = .returned (.int .i64 (chk s.data.toList)) ∧ w = w' := by
  go_enter Try.func18, Try.ntmps18
  go_wp2
  go_loop [6] (fun i => ∃ k : Nat, k ≤ s.size ∧ i = .int .i64 k ∧ (s.data.toList.take k).all okB = true) (fun i => s.size - (intOf i).toNat)
  case atStart => exact ⟨0, Nat.zero_le _, rfl, rfl⟩
  case round =>
    obtain ⟨k, hk, rfl, hall⟩ := hrel
    by_cases hlt : k < s.size
    · go_wp2
      all_goals first
        | (go_round
           case rel => exact ⟨k + 1, by omega, by go_num, all_snoc s k hlt hall (by first | exact okB_yes1 (by assumption) | exact okB_yes2 (by assumption) | exact okB_yes3 (by assumption))⟩
           case measure => simp [intOf]; omega)
        | (go_ret
           exact ⟨ret_int (chk_bad s k hlt (okB_no (by assumption) (by assumption) (by assumption))).symm, rfl⟩)
    · go_wp2
      go_ret
      exact ⟨ret_int (chk_good s (by rw [show s.size = k by omega]; exact hall)).symm, rfl⟩

theorem check_any (s : ByteArray) (w : World) (hs : s.size ≤ 1000000) :
    Calls Try.prog 18 #[.string s] w fun e w' => e = .returned (.int .i64 (chk s.data.toList)) ∧ w = w' := check_wide s w (by omega)
end Go.Proofs.Ythncpflbojoejaa.C1
