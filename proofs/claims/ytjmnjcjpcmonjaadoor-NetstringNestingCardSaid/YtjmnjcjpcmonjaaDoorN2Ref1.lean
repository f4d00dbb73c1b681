/- The contracts of the reference of layer 2: digits, Dec, Number, String, index, decimal. -/
import Derived.Test.YtjmnjcjpcmonjaaDoorRows
import Derived.Test.YtjmnjcjpcmonjaaDoorN2Math
import Derived.Test.YtjmnjcjpcmonjaaDoorMem
import Derived.BigQuiet
import Derived.Deep.QuietTactic
import Derived.WalkSpells
import Derived.WalkLawsBesides
import Derived.Lib.Hide
import Derived.Lib.Strings
namespace Go.Proofs.YtjmnjcjpcmonjaaDoor.N2
open Go.RowKit Mem
set_option linter.unusedVariables false

theorem dig_slice (u : Nat) (h : u < 10) : (⟨#[48, 49, 50, 51, 52, 53, 54, 55, 56, 57]⟩ : ByteArray).extract u (u + 1) = ⟨(dig u).toArray⟩ := by
  rw [dig_small u h]
  apply ByteArray.ext
  match u, h with
  | 0, _ => rfl
  | 1, _ => rfl
  | 2, _ => rfl
  | 3, _ => rfl
  | 4, _ => rfl
  | 5, _ => rfl
  | 6, _ => rfl
  | 7, _ => rfl
  | 8, _ => rfl
  | 9, _ => rfl
theorem two64 (u : Nat) (h : u < 100000000000000000000) : (dig u).length ≤ 20 := dig_len 19 u (by simpa using h)
theorem ret_str2 {a b c : List UInt8} (h : c = a ++ b) : Ending.returned (.string (⟨a.toArray⟩ ++ ⟨b.toArray⟩)) = .returned (.string ⟨c.toArray⟩) := by
  rw [h]
  congr 2
theorem ret_str3 {a b c d e : List UInt8} (h : e = a ++ b ++ c ++ d) : Ending.returned (.string (⟨a.toArray⟩ ++ ⟨b.toArray⟩ ++ ⟨c.toArray⟩ ++ ⟨d.toArray⟩)) = .returned (.string ⟨e.toArray⟩) := by
  rw [h]
  congr 2
theorem str_app (a b : List UInt8) : (⟨a.toArray⟩ ++ ⟨b.toArray⟩ : ByteArray) = ⟨(a ++ b).toArray⟩ := by
  apply ByteArray.ext
  simp

set_option maxHeartbeats 1000000 in
theorem rdigits_any (u : Nat) (hu : u ≤ 18446744073709551615) : ∀ w : World,
    Calls Tryd.prog 39 #[.int .u64 (u : Int)] w fun e w' => e = .returned (.string ⟨(dig u).toArray⟩) ∧ w = w' := by
  induction u using Nat.strongRecOn with
  | _ u ih =>
    intro w
    by_cases h10 : u < 10
    · have hsl := dig_slice u h10
      have hI : (u : Int) < 10 := by omega
      have ihh := Lib.hid ih
      clear ih hu
      go_enter Tryd.func39, Tryd.ntmps39
      go_wp2
      go_ret
      exact ⟨rfl, rfl⟩
    · have h1 := ih (u / 10) (by omega) (by omega)
      have h2 := ih (u % 10) (by omega) (by omega)
      rw [show ((u / 10 : Nat) : Int) = (u : Int) / 10 by simp] at h1
      rw [show ((u % 10 : Nat) : Int) = (u : Int) % 10 by simp] at h2
      have h1 := Lib.hid h1
      have h2 := Lib.hid h2
      have hl1 := dig_len 19 (u / 10) (by omega)
      have hl2 := dig_len 19 (u % 10) (by omega)
      have hst := Lib.hid (dig_step u h10)
      have hmd := Lib.hid (dig_mod u)
      have hI : (10 : Int) ≤ (u : Int) := by omega
      clear ih
      go_enter Tryd.func39, Tryd.ntmps39
      go_wp2_with fail
      refine (h1.out _).mono ?_
      rintro e w1 ⟨rfl, rfl⟩
      go_wp2_with fail
      refine (h2.out _).mono ?_
      rintro e w1 ⟨rfl, rfl⟩
      go_wp2
      go_ret
      exact ⟨ret_str2 (by rw [hst.out, hmd.out]), rfl⟩

theorem natAbs_neg {n : Int} (h : n < 0) : ((n.natAbs : Nat) : Int) = -n := by omega
theorem decI_len {n : Int} (h1 : -9223372036854775808 ≤ n) (h2 : n ≤ 9223372036854775807) : (decI n).length ≤ 21 := by
  have hu := two64 n.natAbs (by omega)
  by_cases h : n < 0
  · rw [decI_neg h]; simp; omega
  · rw [decI_pos h]; omega

set_option maxHeartbeats 1000000 in
theorem rdec_any (n : Int) (w : World) (h1 : -9223372036854775808 ≤ n) (h2 : n ≤ 9223372036854775807) :
    Calls Tryd.prog 28 #[.int .i64 n] w fun e w' => e = .returned (.string ⟨(decI n).toArray⟩) ∧ w = w' := by
  by_cases h : n < 0
  · have hd := rdigits_any n.natAbs (by omega)
    rw [show ((n.natAbs : Nat) : Int) = -(n + 1) + 1 by omega] at hd
    have hd := Lib.hid hd
    have hl := two64 n.natAbs (by omega)
    have hst := Lib.hid (decI_neg h)
    go_enter Tryd.func28, Tryd.ntmps28
    go_wp2_with fail
    refine (hd.out _).mono ?_
    rintro e w1 ⟨rfl, rfl⟩
    go_wp2
    go_ret
    exact ⟨ret_str2 (a := [45]) hst.out, rfl⟩
  · have hd := rdigits_any n.natAbs (by omega)
    rw [show ((n.natAbs : Nat) : Int) = n by omega] at hd
    have hd := Lib.hid hd
    have hst := Lib.hid (decI_pos h)
    go_enter Tryd.func28, Tryd.ntmps28
    go_wp2_with fail
    refine (hd.out _).mono ?_
    rintro e w1 ⟨rfl, rfl⟩
    go_wp2
    go_ret
    exact ⟨ret_string hst.out.symm, rfl⟩

set_option maxHeartbeats 400000 in
theorem rnumber_any (n : Int) (w : World) (h1 : -9223372036854775808 ≤ n) (h2 : n ≤ 9223372036854775807) :
    Calls Tryd.prog 17 #[.int .i64 n] w fun e w' => e = .returned (.string ⟨(numL n).toArray⟩) ∧ w = w' := by
  have hl := decI_len h1 h2
  go_enter Tryd.func17, Tryd.ntmps17
  go_wp2_with fail
  refine (rdec_any n _ h1 h2).mono ?_
  rintro e w1 ⟨rfl, rfl⟩
  go_wp2
  go_ret
  exact ⟨ret_str2 (b := [32]) rfl, rfl⟩

theorem decI_nat (n : Nat) : decI (n : Int) = dig n := by rw [decI_pos (by omega)]; rfl
set_option maxHeartbeats 400000 in
theorem rstring_any (s : ByteArray) (w : World) (hs : s.size ≤ 1000000) :
    Calls Tryd.prog 15 #[.string s] w fun e w' => e = .returned (.string ⟨(strL s.data.toList).toArray⟩) ∧ w = w' := by
  have hd := rdec_any (s.size : Int) w (by omega) (by omega)
  have hl := two64 s.size (by omega)
  rw [decI_nat] at hd
  have hd := Lib.hid hd
  go_enter Tryd.func15, Tryd.ntmps15
  go_wp2_with fail
  refine hd.out.mono ?_
  rintro e w1 ⟨rfl, rfl⟩
  go_wp2
  go_ret
  exact ⟨ret_str3 (b := [58]) (c := s.data.toList) (d := [44]) rfl, rfl⟩

set_option maxHeartbeats 400000 in
theorem rindex_any (s : ByteArray) (k : Nat) (c : UInt8) (w : World) (hs : s.size ≤ 1000000) (hk : k ≤ s.size) :
    Calls Tryd.prog 34 #[.string s, .int .i64 (k : Int), .int .u8 (c.toNat : Int)] w fun e w' => e = .returned (.int .i64 (posI s.data.toList k c)) ∧ w = w' := by
  have hn := Lib.hid (@posI_none s.data.toList k c)
  go_enter Tryd.func34, Tryd.ntmps34
  go_wp2
  go_loop [7] (fun i => ∃ j : Nat, k ≤ j ∧ j ≤ s.size ∧ i = .int .i64 j ∧ Hid (∀ t, k ≤ t → t < j → s.data.toList[t]? ≠ some c)) (fun i => s.size - (intOf i).toNat)
  case atStart => exact ⟨k, Nat.le_refl _, hk, rfl, Lib.hid (fun t h1 h2 => by omega)⟩
  case round =>
    obtain ⟨j, hkj, hj, rfl, hno⟩ := hrel
    by_cases hlt : j < s.size
    · rcases hc : (((s[j]).toNat : Int) == (c.toNat : Int)) with _ | _
      · have hno' := Lib.hid (show ∀ t, k ≤ t → t < j + 1 → s.data.toList[t]? ≠ some c from fun t h1 h2 => by
          by_cases e : t = j
          · subst e
            rw [List.getElem?_eq_getElem (by simpa using hlt)]
            intro h
            injection h with h
            have h : s[t] = c := h
            rw [h] at hc
            simp at hc
          · exact hno.out t h1 (by omega))
        go_wp2
        go_round
        case rel => exact ⟨j + 1, by omega, by omega, by go_num, hno'⟩
        case measure => simp [intOf]; omega
      · have hp := Lib.hid (posI_hit (l := s.data.toList) (k := k) (i := j) (c := c) hkj (by simpa using hlt) (by
          have h : ((s[j]).toNat : Int) = (c.toNat : Int) := by simpa using hc
          show s[j] = c
          exact UInt8.toNat_inj.1 (by omega)) hno.out)
        go_wp2
        go_ret
        exact ⟨ret_i hp.out.symm, rfl⟩
    · have hp := Lib.hid (hn.out (fun t h1 h2 => hno.out t h1 (by have : s.data.toList.length = s.size := rfl; omega)))
      go_wp2
      go_ret
      exact ⟨ret_i hp.out.symm, rfl⟩
end Go.Proofs.YtjmnjcjpcmonjaaDoor.N2
