/- The contract of the landed function of layer 5: Exp. -/
import Derived.Test.YtkobcffkgaodbaaG5OwnPow
namespace Go.Proofs.Ytkobcffkgaodbaa.G5
open Go.RowKit Mem
set_option linter.unusedVariables false
set_option linter.unusedSimpArgs false

theorem exp_own (n : Int) (w : World) (h1 : -9223372036854775808 ≤ n) (h2 : n ≤ 9223372036854775807) : Calls Try.prog 40 #[.int .i64 n] w fun e w' => e = .returned (bv (ex n)) ∧ Below w.heap.size w w' := by
  have c := power_own 2#8 n w h1 h2
  rw [pw_two, show bv 2#8 = .int .u8 2 from rfl] at c
  have c := Lib.hid c
  unfold ex
  go_enter Try.func40, Try.ntmps40
  go_wp2_with fail
  refine c.out.mono ?_
  rintro e w1 ⟨rfl, hb⟩
  go_wp2
  go_ret
  exact ⟨rfl, hb⟩
end Go.Proofs.Ytkobcffkgaodbaa.G5
