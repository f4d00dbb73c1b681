/- The contract of strings.HasPrefix. -/
import Derived.Test.YtfdlgdgjbfoogaaRows
import Derived.Test.YtfdlgdgjbfoogaaM12Math
import Derived.Test.YtfdlgdgjbfoogaaM12Str
import Derived.Lib.Hide
import Derived.WalkKit
import Derived.BigQuiet
import Derived.Deep.QuietTactic
import Derived.WalkSpells
import Derived.WalkLawsBesides
namespace Go.Proofs.Ytfdlgdgjbfoogaa.M12
open Go.RowKit Mem
set_option linter.unusedVariables false
set_option linter.unusedSimpArgs false

set_option maxRecDepth 100000 in
set_option maxHeartbeats 2000000 in
theorem has_prefix0 (s p : ByteArray) (w : World) (hs : s.size ≤ 9223372036854775807) (hp : p.size ≤ 9223372036854775807) :
    Calls Try.prog 22 #[.string s, .string p] w fun e w' => e = .returned (.bool (decide (s.data.toList.take p.size = p.data.toList))) ∧ w = w' := by
  by_cases h : p.size ≤ s.size
  · have d1 : decide ((p.size : Int) ≤ (s.size : Int)) = true := decide_eq_true (by omega)
    have d1' : decide (p.size ≤ s.size) = true := decide_eq_true h
    have hb := str_beq (s.extract 0 p.size) p
    rw [ext_list, List.drop_zero] at hb
    obtain ⟨B, hB⟩ : ∃ B, decide (s.data.toList.take p.size = p.data.toList) = B := ⟨_, rfl⟩
    rw [hB] at hb ⊢
    clear hB
    have p0 : (0 : Int) ≤ (p.size : Int) := by omega
    have p1 : (p.size : Int) ≤ (s.size : Int) := by omega
    have p2 : (s.size : Int) ≤ 9223372036854775807 := by omega
    go_enter Try.func22, Try.ntmps22
    rcases B with _ | _
    · go_wp2
      go_ret
      exact ⟨rfl, rfl⟩
    · go_wp2
      go_ret
      exact ⟨rfl, rfl⟩
  · have d1 : decide ((p.size : Int) ≤ (s.size : Int)) = false := decide_eq_false (by omega)
    have d1' : decide (p.size ≤ s.size) = false := decide_eq_false h
    have hb : decide (s.data.toList.take p.size = p.data.toList) = false := decide_eq_false fun e => by
      have := congrArg List.length e
      rw [List.length_take, size_list, size_list] at this
      omega
    rw [hb]
    go_enter Try.func22, Try.ntmps22
    go_wp2
    go_ret
    exact ⟨rfl, rfl⟩
theorem has_prefix (s p : ByteArray) (w : World) (hs : s.size ≤ 9223372036854775807) (hp : p.size ≤ 9223372036854775807) :
    Calls Try.prog 12 #[.string s, .string p] w fun e w' => e = .returned (.bool (decide (s.data.toList.take p.size = p.data.toList))) ∧ w = w' := by
  have c := Lib.hid (fun W => has_prefix0 s p W hs hp)
  obtain ⟨B, hB⟩ : ∃ B, decide (s.data.toList.take p.size = p.data.toList) = B := ⟨_, rfl⟩
  rw [hB] at c ⊢
  clear hB
  go_enter Try.func12, Try.ntmps12
  go_wp2_with (go_at_call 22; refine (c.out _).mono ?_; rintro e w1 ⟨rfl, rfl⟩)
  go_ret
  exact ⟨rfl, rfl⟩
end Go.Proofs.Ytfdlgdgjbfoogaa.M12
