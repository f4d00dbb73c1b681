/- The contract of the landed Parse, whole (layer 20). -/
import Derived.Test.YtpbcncfbfbghcaaGreatDoorP20L20Pa3
import Derived.Test.YtpbcncfbfbghcaaGreatDoorP20N
namespace Go.Proofs.YtpbcncfbfbghcaaGreatDoor.L20
open Go.RowKit Mem L19
open M17 (Laid Laid.below)
theorem Parse_any (s : ByteArray) (w : World) (hL : Laid w) : Calls Tryz.prog 13 #[.string s] w (PaP (parse s.data.toList) w) := by
  rcases ha : ans s.data.toList with ⟨ts, n, e0⟩
  by_cases he : e0 = 0
  · subst he
    rcases ts with _ | ⟨t, ts⟩
    · exact Parse_nil (ts := []) ha hL
    · exact Parse_some ha (by simp) hL
  · have hb := (ans_bad (s := s.data.toList) (by rw [ha]; exact he)).1
    rw [ha] at hb
    simp only at hb
    subst hb
    have hp : parse s.data.toList = (Prog.nil, n, e0) := by
      unfold parse
      rw [ha]
      simp [he]
    rw [hp]
    exact Parse_bad ha he hL
end Go.Proofs.YtpbcncfbfbghcaaGreatDoor.L20
