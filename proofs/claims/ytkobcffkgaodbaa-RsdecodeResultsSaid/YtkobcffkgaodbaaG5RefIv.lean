/- The contract of the reference's inverse of layer 5. -/
import Derived.Test.YtkobcffkgaodbaaG5RefMul
import Derived.Test.YtkobcffkgaodbaaG5Fun
namespace Go.Proofs.Ytkobcffkgaodbaa.G5
open Go.RowKit Mem
set_option linter.unusedVariables false
set_option linter.unusedSimpArgs false

set_option maxRecDepth 100000 in
set_option maxHeartbeats 1000000 in
theorem rinv_any (a : R) (w : World) : Calls Try.prog 58 #[bv a] w fun e w' => e = .returned (.tuple #[bv (iv a), .bool (!(a == 0))]) ∧ w = w' := by
  go_enter Try.func58, Try.ntmps58
  go_wp2
  go_loop [4] (fun x => ∃ j : Nat, 1 ≤ j ∧ j ≤ 256 ∧ x = .int .i64 j ∧ ∀ i, 1 ≤ i → i < j → tms a (BitVec.ofNat 8 i) ≠ 1) (fun x => 256 - (intOf x).toNat)
  case atStart => exact ⟨1, by decide, by decide, rfl, fun i h1 h2 => by omega⟩
  case round =>
    obtain ⟨j, h1, h2, rfl, hn⟩ := hrel
    by_cases hlt : j < 256
    · have hv : ((BitVec.ofNat 8 j).toNat : Int) = (j : Int) := by rw [BitVec.toNat_ofNat]; omega
      have c := rmul_any a (BitVec.ofNat 8 j) w
      rw [bv, bv, hv] at c
      obtain ⟨T, hT⟩ : ∃ T, tms a (BitVec.ofNat 8 j) = T := ⟨_, rfl⟩
      rw [hT] at c
      have c := Lib.hid c
      have hnh := Lib.hid hn
      have hvh := Lib.hid hv
      clear hn hv
      rcases hb : T == 1#8 with _ | _
      · have ht : ((T.toNat : Int) == 1) = false := by rw [← hb, ← bv_eq1]; rfl
        have hne : T ≠ 1 := by simpa using hb
        have hneh := Lib.hid hne
        have hTh := Lib.hid hT
        clear hb hne hT
        go_wp2_with fail
        refine c.out.mono ?_
        rintro e w1 ⟨rfl, rfl⟩
        go_wp2
        go_round
        case rel => exact ⟨j + 1, by omega, by omega, by go_num, fun i h3 h4 => by
          by_cases he : i = j
          · subst he
            rw [hTh.out]
            exact hneh.out
          · exact hnh.out i h3 (by omega)⟩
        case measure => simp [intOf]; omega
      · have ht : ((T.toNat : Int) == 1) = true := by rw [← hb, ← bv_eq1]; rfl
        have he : T = 1 := by simpa using hb
        rw [he] at hT
        have hi := Lib.hid (iv_only hT)
        have ha0 : (a == 0) = false := by
          rw [beq_eq_false_iff_ne]
          intro e
          rw [e, zero_tms] at hT
          exact absurd hT (by decide)
        have ha0 := Lib.hid ha0
        clear hb he hT
        go_wp2_with fail
        refine c.out.mono ?_
        rintro e w1 ⟨rfl, rfl⟩
        go_wp2
        go_ret2
        exact ⟨ret_kb (by rw [← hi.out, hvh.out]) (by rw [ha0.out]; rfl), rfl⟩
    · have h0 := Lib.hid (noinv_of (a := a) (fun i h3 h4 => hn i h3 (by omega)))
      obtain rfl : j = 256 := by omega
      clear hn
      go_wp2
      go_ret2
      exact ⟨by rw [h0.out]; rfl, rfl⟩
theorem rinv_one (a : R) (w : World) : Calls Try.prog 58 #[bv a] w fun e w' => e = .returned (.tuple #[bv (iv a), .bool (!(a == 0#8))]) ∧ w = w' := rinv_any a w
end Go.Proofs.Ytkobcffkgaodbaa.G5
