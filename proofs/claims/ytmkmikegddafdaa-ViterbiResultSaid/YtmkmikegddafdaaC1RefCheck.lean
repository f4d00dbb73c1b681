/- The contract of layer 1's reference's Check. -/
import Derived.Test.YtmkmikegddafdaaRows
import Derived.Test.YtmkmikegddafdaaC1Math
import Derived.WalkKit
import Derived.BigQuiet
import Derived.Deep.QuietTactic
import Derived.WalkSpells
import Derived.WalkLawsBesides
import Derived.Lib.Hide
namespace Go.Proofs.Ytmkmikegddafdaa.C1
open Go.RowKit

set_option maxHeartbeats 1000000 in
theorem rcheck_any (s : ByteArray) (w : World) (hs : s.size ≤ 1000000) :
    Calls Try.prog 42 #[.string s] w fun e w' => e = .returned (.int .i64 (chk s.data.toList)) ∧ w = w' := by
  go_enter Try.func42, Try.ntmps42
  go_wp2
  go_loop [3] (fun i => ∃ k : Nat, k ≤ s.size ∧ i = .int .i64 k ∧ (s.data.toList.take k).all okB = true) (fun i => s.size - (intOf i).toNat)
  case atStart => exact ⟨0, Nat.zero_le _, rfl, rfl⟩
  case round =>
    obtain ⟨k, hk, rfl, hall⟩ := hrel
    by_cases hlt : k < s.size
    · rcases h1 : (((s[k]).toNat : Int) == 48) with _ | _
      · have h1' := ne_of_no h1
        rcases h2 : (((s[k]).toNat : Int) == 49) with _ | _
        · have h2' := ne_of_no h2
          rcases h3 : (((s[k]).toNat : Int) == 63) with _ | _
          · have h3' := ne_of_no h3
            have hbad := Lib.hid (chk_bad s k hlt (okB_no h1 h2 h3))
            go_wp2
            go_ret
            exact ⟨ret_int hbad.out.symm, rfl⟩
          · have h3' := ne_of_eq h3
            have hall' := all_snoc s k hlt hall (okB_yes3 h3)
            go_wp2
            go_round
            case rel => exact ⟨k + 1, by omega, by go_num, hall'⟩
            case measure => simp [intOf]; omega
        · have h2' := ne_of_eq h2
          have hall' := all_snoc s k hlt hall (okB_yes2 h2)
          go_wp2
          go_round
          case rel => exact ⟨k + 1, by omega, by go_num, hall'⟩
          case measure => simp [intOf]; omega
      · have h1' := ne_of_eq h1
        have hall' := all_snoc s k hlt hall (okB_yes1 h1)
        go_wp2
        go_round
        case rel => exact ⟨k + 1, by omega, by go_num, hall'⟩
        case measure => simp [intOf]; omega
    · go_wp2
      go_ret
      exact ⟨ret_int (chk_good s (by rw [show s.size = k by omega]; exact hall)).symm, rfl⟩

end Go.Proofs.Ytmkmikegddafdaa.C1
