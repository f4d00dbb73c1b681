/- The contracts of the landed functions of layer 12: Mark, PlainMark, Distance. -/
import Derived.Test.YtpekdmplphpheaaRows
import Derived.Test.YtpekdmplphpheaaM12Math
import Derived.Lib.Hide
import Derived.WalkKit
import Derived.BigQuiet
import Derived.Deep.QuietTactic
import Derived.WalkSpells
import Derived.WalkLawsBesides
namespace Go.Proofs.Ytpekdmplphpheaa.M12
open Go.RowKit Mem
set_option linter.unusedVariables false
set_option linter.unusedSimpArgs false

theorem mark_any (w : World) : Calls Try.prog 15 #[] w fun e w' => e = .returned (.string mkB) ∧ w = w' := by
  go_enter Try.func15, Try.ntmps15
  go_wp2
  go_ret
  exact ⟨rfl, rfl⟩
theorem plain_any (w : World) : Calls Try.prog 17 #[] w fun e w' => e = .returned (.string plB) ∧ w = w' := by
  go_enter Try.func17, Try.ntmps17
  go_wp2
  go_ret
  exact ⟨rfl, rfl⟩
theorem u8_neI (x y : UInt8) : (x != y) = ((x.toNat : Int) != (y.toNat : Int)) := by
  rw [Bool.eq_iff_iff]
  simp [← UInt8.toNat_inj]
  omega
theorem wrap_over {x : Int} (h : 9223372036854775807 < x) (h' : x < 18446744073709551616) : wrap64 x = x - 18446744073709551616 := by
  unfold wrap64
  omega
theorem wrap_in {x : Int} (h : -9223372036854775808 ≤ x) (h' : x ≤ 9223372036854775807) : wrap64 x = x := IntWalk.wrap64_in _ ⟨h, h'⟩
/-- The next count, whatever the cell is. -/
theorem step_in {c : ByteArray} {a : Int} {k j : Nat} (hk : k < 16) (hj : a + k = j) (hc : j < c.size) : mm c.data.toList a k = (((c[j]'hc).toNat : Int) != ((((ByteArray.mk #[49, 49, 49, 49, 49, 48, 48, 49, 49, 48, 49, 48, 49, 48, 48, 48])[k]'hk).toNat : Nat) : Int)) := by
  rw [mm_in hk hj (show j < c.data.toList.length by simpa using hc), ← u8_neI]
  rfl
set_option maxRecDepth 100000 in
set_option maxHeartbeats 2000000 in
theorem distance_any (c : ByteArray) (a : Int) (w : World) (hc : c.size ≤ 9223372036854775807) (a1 : -9223372036854775808 ≤ a) (a2 : a ≤ 9223372036854775807) :
    Calls Try.prog 11 #[.string c, .int .i64 a] w fun e w' => e = .returned (.int .i64 (ds c.data.toList a : Int)) ∧ ∃ n, w' = w.drewN n := by
  obtain ⟨l, hl⟩ : ∃ l, c.data.toList = l := ⟨_, rfl⟩
  have hll : l.length = c.size := by rw [← hl]; simp
  rw [hl]
  go_enter Try.func11, Try.ntmps11
  go_wp2
  go_loopw [5, 8] (fun u i wr => ∃ k : Nat, k ≤ 16 ∧ i = .int .i64 k ∧ u = .int .i64 (dsTo l a k) ∧ ∃ n, wr = w.drewN n) (fun _ i _ => 16 - (intOf i).toNat)
  case atStart => exact ⟨0, Nat.zero_le _, rfl, rfl, 0, rfl⟩
  case round =>
    obtain ⟨k, hk, rfl, rfl, n, rfl⟩ := hrel
    have hd := dsTo_le l a k
    by_cases hlt : k < 16
    · by_cases ho : a + k < 0
      · have hn := Lib.hid (dsTo_yes (mm_none hlt (cell_neg (l := l) ho)))
        have d1 : decide (a + (k : Int) < 0) = true := decide_eq_true ho
        go_wp2
        go_quiet (fail)
        go_wp2
        go_roundw
        case rel => exact ⟨k + 1, by omega, by go_num, by rw [hn.out]; go_num, _, rfl⟩
        case measure => simp [intOf]; omega
      · by_cases hp : 9223372036854775807 < a + k
        · have hn := Lib.hid (dsTo_yes (mm_none hlt (cell_past (l := l) (a := a) (k := k) (by omega))))
          have d1 : decide (wrap64 (a + (k : Int)) < 0) = true := decide_eq_true (by rw [wrap_over hp (by omega)]; omega)
          clear hll
          go_wp2
          go_quiet (fail)
          go_wp2
          go_roundw
          case rel => exact ⟨k + 1, by omega, by go_num, by rw [hn.out]; go_num, _, rfl⟩
          case measure => simp [intOf]; omega
        · obtain ⟨j, hj⟩ : ∃ j : Nat, a + (k : Int) = j := ⟨(a + k).toNat, by omega⟩
          have hw : wrap64 (a + (k : Int)) = (j : Int) := by rw [wrap_in (by omega) (by omega), hj]
          have d1 : decide ((j : Int) < 0) = false := decide_eq_false (by omega)
          by_cases hs : j < c.size
          · have d2 : decide ((c.size : Int) ≤ (j : Int)) = false := decide_eq_false (by omega)
            have d2' : decide (c.size ≤ j) = false := decide_eq_false (by omega)
            have j0 : (0 : Int) ≤ (j : Int) := by omega
            have j1 : (j : Int) < (c.size : Int) := by omega
            have hm := step_in hlt hj hs
            rw [hl] at hm
            rcases h1 : (((c[j]'hs).toNat : Int) != ((((ByteArray.mk #[49, 49, 49, 49, 49, 48, 48, 49, 49, 48, 49, 48, 49, 48, 48, 48])[k]'hlt).toNat : Nat) : Int)) with _ | _
            · have hn := Lib.hid (dsTo_no (hm.trans h1))
              clear hll hm ho hp
              go_wp2
              go_quiet (fail)
              go_wp2
              go_roundw
              case rel => exact ⟨k + 1, by omega, by go_num, by rw [hn.out], _, rfl⟩
              case measure => simp [intOf]; omega
            · have hn := Lib.hid (dsTo_yes (hm.trans h1))
              clear hll hm ho hp
              go_wp2
              go_quiet (fail)
              go_wp2
              go_roundw
              case rel => exact ⟨k + 1, by omega, by go_num, by rw [hn.out]; go_num, _, rfl⟩
              case measure => simp [intOf]; omega
          · have d2 : decide ((c.size : Int) ≤ (j : Int)) = true := decide_eq_true (by omega)
            have d2' : decide (c.size ≤ j) = true := decide_eq_true (by omega)
            have hn := Lib.hid (dsTo_yes (mm_none hlt (cell_past (l := l) (a := a) (k := k) (by omega))))
            have j2 : (j : Int) ≤ 9223372036854775807 := by omega
            clear hll ho hp
            go_wp2
            go_quiet (fail)
            go_wp2
            go_roundw
            case rel => exact ⟨k + 1, by omega, by go_num, by rw [hn.out]; go_num, _, rfl⟩
            case measure => simp [intOf]; omega
    · obtain rfl : k = 16 := by omega
      go_wp2
      go_ret
      exact ⟨rfl, n, rfl⟩
end Go.Proofs.Ytpekdmplphpheaa.M12
