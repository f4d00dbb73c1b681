/- The contracts of the landed addressText, firstDefinitions, checkToken, check, addressesOf (layer 18). -/
import Derived.Test.YthmgocjmfhpafaaDoorA18Own2
import Derived.Test.YthmgocjmfhpafaaDoorA18Own3
import Derived.Test.YthmgocjmfhpafaaDoorA18Map
import Derived.Test.YthmgocjmfhpafaaDoorM17Tab
namespace Go.Proofs.YthmgocjmfhpafaaDoor.A18
set_option maxRecDepth 100000
open Go.RowKit Mem
open Go.Maps Go.WideMaps
open M17 (Laid Laid.below)
set_option linter.unusedVariables false
set_option linter.unusedSimpArgs false

theorem dec_small (n : Nat) (h : n < 10) : Lib.decDigits n = [UInt8.ofNat (48 + n)] := by rw [Lib.decDigits, dif_pos h]
theorem dec_step (n : Nat) (h : 10 ≤ n) : Lib.decDigits n = Lib.decDigits (n / 10) ++ [UInt8.ofNat (48 + n % 10)] := by rw [Lib.decDigits, dif_neg (by omega)]
/-- An address has at most six digits; zeros fill it up. -/
theorem six_dec (n : Nat) (h : n < 1000000) : ∃ k : Nat, k = 6 - (Lib.decDigits n).length ∧ (Lib.decDigits n).length ≤ 6 ∧ 1 ≤ (Lib.decDigits n).length ∧ sixL n = Lib.repeatL [48] k ++ Lib.decDigits n := by
  have z : UInt8.ofNat (48 + 0) = 48 := rfl
  have six : sixL n = [UInt8.ofNat (48 + n / 100000 % 10), UInt8.ofNat (48 + n / 10000 % 10), UInt8.ofNat (48 + n / 1000 % 10), UInt8.ofNat (48 + n / 100 % 10), UInt8.ofNat (48 + n / 10 % 10), UInt8.ofNat (48 + n % 10)] := rfl
  rw [six]
  by_cases h1 : n < 10
  · rw [dec_small n h1]
    refine ⟨5, rfl, by simp, by simp, ?_⟩
    rw [show n / 100000 % 10 = 0 by omega, show n / 10000 % 10 = 0 by omega, show n / 1000 % 10 = 0 by omega, show n / 100 % 10 = 0 by omega, show n / 10 % 10 = 0 by omega, show n % 10 = n by omega]
    rfl
  by_cases h2 : n < 100
  · rw [dec_step n (by omega), dec_small (n / 10) (by omega)]
    refine ⟨4, rfl, by simp, by simp, ?_⟩
    rw [show n / 100000 % 10 = 0 by omega, show n / 10000 % 10 = 0 by omega, show n / 1000 % 10 = 0 by omega, show n / 100 % 10 = 0 by omega, show n / 10 % 10 = n / 10 by omega]
    rfl
  by_cases h3 : n < 1000
  · rw [dec_step n (by omega), dec_step (n / 10) (by omega), dec_small (n / 10 / 10) (by omega)]
    refine ⟨3, rfl, by simp, by simp, ?_⟩
    rw [show n / 100000 % 10 = 0 by omega, show n / 10000 % 10 = 0 by omega, show n / 1000 % 10 = 0 by omega, show n / 100 % 10 = n / 10 / 10 by omega]
    rfl
  by_cases h4 : n < 10000
  · rw [dec_step n (by omega), dec_step (n / 10) (by omega), dec_step (n / 10 / 10) (by omega), dec_small (n / 10 / 10 / 10) (by omega)]
    refine ⟨2, rfl, by simp, by simp, ?_⟩
    rw [show n / 100000 % 10 = 0 by omega, show n / 10000 % 10 = 0 by omega, show n / 1000 % 10 = n / 10 / 10 / 10 by omega, show n / 100 % 10 = n / 10 / 10 % 10 by omega]
    rfl
  by_cases h5 : n < 100000
  · rw [dec_step n (by omega), dec_step (n / 10) (by omega), dec_step (n / 10 / 10) (by omega), dec_step (n / 10 / 10 / 10) (by omega), dec_small (n / 10 / 10 / 10 / 10) (by omega)]
    refine ⟨1, rfl, by simp, by simp, ?_⟩
    rw [show n / 100000 % 10 = 0 by omega, show n / 10000 % 10 = n / 10 / 10 / 10 / 10 by omega, show n / 1000 % 10 = n / 10 / 10 / 10 % 10 by omega, show n / 100 % 10 = n / 10 / 10 % 10 by omega]
    rfl
  · rw [dec_step n (by omega), dec_step (n / 10) (by omega), dec_step (n / 10 / 10) (by omega), dec_step (n / 10 / 10 / 10) (by omega), dec_step (n / 10 / 10 / 10 / 10) (by omega), dec_small (n / 10 / 10 / 10 / 10 / 10) (by omega)]
    refine ⟨0, rfl, by simp, by simp, ?_⟩
    rw [show n / 100000 % 10 = n / 10 / 10 / 10 / 10 / 10 by omega, show n / 10000 % 10 = n / 10 / 10 / 10 / 10 % 10 by omega, show n / 1000 % 10 = n / 10 / 10 / 10 % 10 by omega, show n / 100 % 10 = n / 10 / 10 % 10 by omega]
    rfl
set_option maxHeartbeats 4000000 in
theorem addressText_any (n : Nat) (h : n < 1000000) (w : World) (hL : Laid w) : Calls Tryd.prog 63 #[.int .i64 (n : Int)] w fun e w' => e = .returned (strV (sixL n)) ∧ Below w.heap.size w w' := by
  have cI := fun (w : World) (hL : Laid w) => Tryd.strconv_Itoa (n : Int) (by omega) (by omega) w hL
  have hI : Lib.itoa (n : Int) = Lib.decDigits n := by
    unfold Lib.itoa
    rw [if_neg (by omega)]
    rfl
  rw [hI] at cI
  obtain ⟨k, hk, h6, h1, hs⟩ := six_dec n h
  obtain ⟨D, hD⟩ : ∃ D, Lib.decDigits n = D := ⟨_, rfl⟩
  rw [hD] at cI h6 h1 hk hs
  have cR := fun W => Tryd.strings_Repeat ⟨#[48]⟩ k W (by omega) (by rw [show (ByteArray.mk #[48]).size = 1 from rfl]; omega)
  rw [show (ByteArray.mk #[48]).data.toList = [48] from rfl] at cR
  rw [hs]
  obtain ⟨R, hR⟩ : ∃ R, Lib.repeatL [48] k = R := ⟨_, rfl⟩
  have hRl : R.length = k := by rw [← hR, Lib.repeatL_length]; simp
  rw [hR] at cR ⊢
  obtain ⟨SD, hSD⟩ : ∃ SD : ByteArray, ⟨D.toArray⟩ = SD := ⟨_, rfl⟩
  obtain ⟨SR, hSR⟩ : ∃ SR : ByteArray, ⟨R.toArray⟩ = SR := ⟨_, rfl⟩
  have hSDn : SD.size = D.length := by rw [← hSD, str_size]
  have hSRn : SR.size = R.length := by rw [← hSR, str_size]
  have e1 : (6 : Int) - (SD.size : Int) = (k : Int) := by omega
  have s1 : SD.size ≤ 6 := by omega
  have s2 : SR.size ≤ 6 := by omega
  have hfin := Lib.hid (show strV (R ++ D) = .string (SR ++ SD) by unfold strV; rw [← hSD, ← hSR, str_cat])
  rw [hSD] at cI
  rw [hSR] at cR
  have c1 := Lib.hid (cI w hL)
  have c2 := Lib.hid cR
  clear hD hR hRl hSD hSR hSDn hSRn hs hI cI cR hk
  go_enter Tryd.func63, Tryd.ntmps63
  go_wp2_with fail
  refine (c1.out).mono ?_
  rintro e w1 ⟨rfl, q, os, rfl⟩
  have hb1 := Lib.below_grow w.heap.size w (Nat.le_refl _) q os
  obtain ⟨W1, hW1⟩ : ∃ W, Sort.grow (w.drewN q) os = W := ⟨_, rfl⟩
  rw [hW1] at hb1 ⊢
  replace hb1 := Lib.hid hb1
  clear hW1
  go_wp2_with fail
  refine (c2.out _).mono ?_
  rintro e w2 ⟨rfl, hb2⟩
  go_wp2
  first | go_ret | skip
  exact ⟨by rw [hfin.out]; rfl, chain hb1.out hb2⟩
end Go.Proofs.YthmgocjmfhpafaaDoor.A18
