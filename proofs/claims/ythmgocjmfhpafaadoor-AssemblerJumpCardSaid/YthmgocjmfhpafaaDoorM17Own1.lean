/- The contracts of the landed trapIf, divisor, address, truth, isDigit of layer 17. -/
import Derived.Test.YthmgocjmfhpafaaDoorRows
import Derived.Test.YthmgocjmfhpafaaDoorMem
import Derived.Test.YthmgocjmfhpafaaDoorM17Math
import Derived.Lib.Hide
import Derived.Laws.MakeOwn
import Derived.RangeFuncRecord
import Derived.ChangeSame
import Derived.WalkKit
import Derived.ProofKit
import Derived.WalkSpells
import Derived.WalkLawsBesides
import Derived.BigQuiet
import Derived.Deep.QuietTactic
import Derived.Deep.RegionHeld3
namespace Go.Proofs.YthmgocjmfhpafaaDoor.M17
set_option maxRecDepth 100000
open Go.RowKit Mem
set_option linter.unusedVariables false
set_option linter.unusedSimpArgs false

/-- What a trap panics with. -/
def tr : PanicEntry := { v := .iface 116 (.agg #[]), recovered := false }
theorem trapIf_no (w : World) : Calls Tryd.prog 143 #[.bool false] w fun e w' => e = .returned (.tuple #[]) ∧ w' = w := by
  go_enter Tryd.func143, Tryd.ntmps143
  go_wp2
  first | go_end0 | skip
  exact ⟨rfl, rfl⟩
theorem trapIf_yes (w : World) : Calls Tryd.prog 143 #[.bool true] w fun e w' => e = .panicked [tr] ∧ w' = w := by
  go_enter Tryd.func143, Tryd.ntmps143
  go_wp2
  exact ⟨rfl, rfl, rfl⟩
theorem address_own (a : Nat) (h : a < 262144) (w : World) : Calls Tryd.prog 118 #[.int .u32 (a : Int)] w fun e w' => e = .returned (.int .u32 (a : Int)) ∧ w' = w := by
  have t : decide ((262144 : Int) ≤ (a : Int)) = false := decide_eq_false (by omega)
  have c := Lib.hid (trapIf_no w)
  go_enter Tryd.func118, Tryd.ntmps118
  go_wp2_with fail
  refine (c.out).mono ?_
  rintro e w1 ⟨rfl, rfl⟩
  go_wp2
  first | go_ret | skip
  exact ⟨rfl, rfl⟩
theorem address_bad (a : Nat) (h : ¬ a < 262144) (w : World) : Calls Tryd.prog 118 #[.int .u32 (a : Int)] w fun e w' => e = .panicked [tr] ∧ w' = w := by
  have t : decide ((262144 : Int) ≤ (a : Int)) = true := decide_eq_true (by omega)
  have c := Lib.hid (trapIf_yes w)
  go_enter Tryd.func118, Tryd.ntmps118
  go_wp2_with fail
  refine (c.out).mono ?_
  rintro e w1 ⟨rfl, rfl⟩
  exact ⟨rfl, rfl, rfl⟩
theorem divisor_own (a : Nat) (h : ¬ a = 0) (w : World) : Calls Tryd.prog 112 #[.int .u32 (a : Int)] w fun e w' => e = .returned (.int .u32 (a : Int)) ∧ w' = w := by
  have t : ((a : Int) == 0) = false := by simpa using h
  have c := Lib.hid (trapIf_no w)
  go_enter Tryd.func112, Tryd.ntmps112
  go_wp2_with fail
  refine (c.out).mono ?_
  rintro e w1 ⟨rfl, rfl⟩
  go_wp2
  first | go_ret | skip
  exact ⟨rfl, rfl⟩
theorem divisor_bad (w : World) : Calls Tryd.prog 112 #[.int .u32 0] w fun e w' => e = .panicked [tr] ∧ w' = w := by
  have c := Lib.hid (trapIf_yes w)
  go_enter Tryd.func112, Tryd.ntmps112
  go_wp2_with fail
  refine (c.out).mono ?_
  rintro e w1 ⟨rfl, rfl⟩
  exact ⟨rfl, rfl, rfl⟩
theorem truth_own (b : Bool) (w : World) : Calls Tryd.prog 116 #[.bool b] w fun e w' => e = .returned (.int .u32 ((if b then 1 else 0 : Nat) : Int)) ∧ w' = w := by
  cases b
  · go_enter Tryd.func116, Tryd.ntmps116
    go_wp2
    first | go_ret | skip
    exact ⟨rfl, rfl⟩
  · go_enter Tryd.func116, Tryd.ntmps116
    go_wp2
    first | go_ret | skip
    exact ⟨rfl, rfl⟩
theorem isDigit_own (c : Nat) (w : World) : Calls Tryd.prog 80 #[.int .u32 (c : Int)] w fun e w' => e = .returned (.bool (decide (48 ≤ c ∧ c ≤ 57))) ∧ w' = w := by
  by_cases h1 : 48 ≤ c
  · have t1 : decide ((48 : Int) ≤ (c : Int)) = true := decide_eq_true (by omega)
    by_cases h2 : c ≤ 57
    · have t2 : decide ((c : Int) ≤ 57) = true := decide_eq_true (by omega)
      rw [decide_eq_true (show 48 ≤ c ∧ c ≤ 57 from ⟨h1, h2⟩)]
      clear h1 h2
      go_enter Tryd.func80, Tryd.ntmps80
      go_wp2
      first | go_ret | skip
      exact ⟨rfl, rfl⟩
    · have t2 : decide ((c : Int) ≤ 57) = false := decide_eq_false (by omega)
      rw [decide_eq_false (show ¬ (48 ≤ c ∧ c ≤ 57) from fun h => h2 h.2)]
      clear h1 h2
      go_enter Tryd.func80, Tryd.ntmps80
      go_wp2
      first | go_ret | skip
      exact ⟨rfl, rfl⟩
  · have t1 : decide ((48 : Int) ≤ (c : Int)) = false := decide_eq_false (by omega)
    rw [decide_eq_false (show ¬ (48 ≤ c ∧ c ≤ 57) from fun h => h1 h.1)]
    clear h1
    go_enter Tryd.func80, Tryd.ntmps80
    go_wp2
    first | go_ret | skip
    exact ⟨rfl, rfl⟩
end Go.Proofs.YthmgocjmfhpafaaDoor.M17
