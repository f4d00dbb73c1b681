/- The contracts of the landed functions of layer 5: exponent, bitsOf. -/
import Derived.Test.YtcfoclmkhippoaaG5OwnMul
namespace Go.Proofs.Ytcfoclmkhippoaa.G5
set_option maxRecDepth 100000
open Go.RowKit Mem
set_option linter.unusedVariables false
set_option linter.unusedSimpArgs false

theorem exponent_own (n : Int) (w : World) : Calls Try.prog 71 #[.int .i64 n] w fun e w' => e = .returned (.int .i64 (n % 255)) ∧ w = w' := by
  have hg := go_mod2 n
  have hb : -255 < Int.tmod n 255 ∧ Int.tmod n 255 < 255 := ⟨Int.lt_tmod_of_pos n (by decide), Int.tmod_lt_of_pos n (by decide)⟩
  obtain ⟨K, hK⟩ : ∃ K, Int.tmod n 255 = K := ⟨_, rfl⟩
  rw [hK] at hg hb
  obtain ⟨h1, h2⟩ := hb
  have hgh := Lib.hid hg
  clear hg
  go_enter Try.func71, Try.ntmps71
  go_wp2
  go_ret
  exact ⟨ret_i (by rw [← hgh.out]; first | rfl | (rw [Int.tmod_eq_emod_of_nonneg (by omega)])), rfl⟩

theorem bitsOf_own (n : Int) (w : World) : Calls Try.prog 70 #[.int .i64 n] w fun e w' =>
    e = .returned (.func (.func 72) #[] #[.pointer (some ⟨w.heap.size, 0, none⟩)]) ∧ w' = w.alloc (.cells #[.int .i64 n] 3) := by
  go_enter Try.func70, Try.ntmps70
  go_wp2
  go_ret
  exact ⟨rfl, rfl⟩

end Go.Proofs.Ytcfoclmkhippoaa.G5
