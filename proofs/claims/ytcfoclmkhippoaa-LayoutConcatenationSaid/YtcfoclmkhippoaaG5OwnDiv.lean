/- The contracts of the landed functions of layer 5: Pow, Inv, Div. -/
import Derived.Test.YtcfoclmkhippoaaG5OwnPow
namespace Go.Proofs.Ytcfoclmkhippoaa.G5
set_option maxRecDepth 100000
open Go.RowKit Go.Shelf Mem
set_option linter.unusedVariables false
set_option linter.unusedSimpArgs false
attribute [local go_sem] Oper.semAt_some

/-! ### Pow, Inv, Div, Exp -/
set_option maxRecDepth 100000 in
set_option maxHeartbeats 1000000 in
theorem pow_own (a : R) (n : Int) (w : World) (h1 : -9223372036854775808 ≤ n) (h2 : n ≤ 9223372036854775807) :
    Calls Try.prog 68 #[bv a, .int .i64 n] w fun e w' => e = .returned (.tuple #[bv (po a n), .bool (pk a n)]) ∧ Below w.heap.size w w' := by
  by_cases hn : n = 0
  · subst hn
    have hp : po a 0 = 1#8 := by
      unfold po
      split
      · rfl
      · rfl
    have hk : pk a 0 = true := by
      unfold pk
      rw [decide_eq_true (by decide), Bool.or_true]
    have hph := Lib.hid hp
    have hkh := Lib.hid hk
    clear hp hk
    go_enter Try.func68, Try.ntmps68
    go_wp2
    go_ret2
    exact ⟨ret_kb (by rw [hph.out]; rfl) hkh.out.symm, Below.refl _ _⟩
  · have hd : (n == 0) = false := by rw [beq_eq_false_iff_ne]; exact hn
    by_cases ha : a = 0
    · subst ha
      have hp : po 0 n = 0 := by unfold po; rw [if_pos rfl, if_neg hn]
      have hk : pk 0 n = decide (0 < n) := by
        unfold pk
        rw [show (!((0 : R) == 0)) = false by decide, Bool.false_or]
        by_cases h : 0 < n
        · rw [decide_eq_true h, decide_eq_true (by omega)]
        · rw [decide_eq_false h, decide_eq_false (by omega)]
      have hph := Lib.hid hp
      have hkh := Lib.hid hk
      clear hn hp hk
      go_enter Try.func68, Try.ntmps68
      go_wp2
      go_ret2
      exact ⟨by rw [hph.out, hkh.out]; rfl, Below.refl _ _⟩
    · have hd0 : ((a.toNat : Int) == 0) = false := by
        rw [show ((a.toNat : Int) == 0) = (a == 0) from bv_eq1 a 0, beq_eq_false_iff_ne]
        exact ha
      have hph := Lib.hid (po_of ha n)
      have hkh := Lib.hid (show pk a n = true by
        unfold pk
        rw [show (a == 0) = false by rw [beq_eq_false_iff_ne]; exact ha]
        rfl)
      have c := Lib.hid (power_own a n w h1 h2)
      clear ha hn
      go_enter Try.func68, Try.ntmps68
      go_wp2_with fail
      refine c.out.mono ?_
      rintro e w1 ⟨rfl, hb⟩
      go_wp2
      go_ret2
      exact ⟨by rw [hph.out, hkh.out]; rfl, hb⟩

theorem inv_own (a : R) (w : World) : Calls Try.prog 67 #[bv a] w fun e w' => e = .returned (.tuple #[bv (iv a), .bool (!(a == 0#8))]) ∧ Below w.heap.size w w' := by
  have c := pow_own a (-1) w (by decide) (by decide)
  rw [po_neg_one, show pk a (-1) = !(a == 0#8) from (by unfold pk; rw [decide_eq_false (by decide), Bool.or_false]; rfl)] at c
  obtain ⟨B, hB⟩ : ∃ B, (!(a == 0#8)) = B := ⟨_, rfl⟩
  rw [hB] at c ⊢
  have c := Lib.hid c
  clear hB
  go_enter Try.func67, Try.ntmps67
  go_wp2_with fail
  refine c.out.mono ?_
  rintro e w1 ⟨rfl, hb⟩
  go_wp2
  go_ret2
  exact ⟨rfl, hb⟩

theorem div_own (a b : R) (w : World) : Calls Try.prog 65 #[bv a, bv b] w fun e w' => e = .returned (.tuple #[bv (dv a b), .bool (!(b == 0#8))]) ∧ Below w.heap.size w w' := by
  have c1 := inv_own b w
  have c2 := fun W => mul_own a (iv b) W
  rw [dv_all] at c2
  obtain ⟨B, hB⟩ : ∃ B, (!(b == 0#8)) = B := ⟨_, rfl⟩
  rw [hB] at c1 ⊢
  have c1 := Lib.hid c1
  have c2 := Lib.hid c2
  clear hB
  go_enter Try.func65, Try.ntmps65
  go_wp2_with fail
  refine c1.out.mono ?_
  rintro e w1 ⟨rfl, hb⟩
  go_wp2_with fail
  refine (c2.out _).mono ?_
  rintro e w2 ⟨rfl, rfl⟩
  go_wp2
  go_ret2
  exact ⟨rfl, hb⟩

end Go.Proofs.Ytcfoclmkhippoaa.G5
