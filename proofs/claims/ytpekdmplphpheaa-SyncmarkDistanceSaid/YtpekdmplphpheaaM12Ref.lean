/- The contracts of the reference's functions of layer 12. -/
import Derived.Test.YtpekdmplphpheaaM12Own2
namespace Go.Proofs.Ytpekdmplphpheaa.M12
open Go.RowKit Mem
set_option linter.unusedVariables false
set_option linter.unusedSimpArgs false

theorem rmark_any (w : World) : Calls Try.prog 16 #[] w fun e w' => e = .returned (.string mkB) ∧ w = w' := by
  go_enter Try.func16, Try.ntmps16
  go_wp2
  go_ret
  exact ⟨rfl, rfl⟩
theorem rplain_any (w : World) : Calls Try.prog 18 #[] w fun e w' => e = .returned (.string plB) ∧ w = w' := by
  go_enter Try.func18, Try.ntmps18
  go_wp2
  go_ret
  exact ⟨rfl, rfl⟩
/-- Does no cell lie within the 16 cells? -/
def farB (l : List UInt8) (a : Int) : Bool := decide (a < -16) || decide ((l.length : Int) ≤ a)
theorem rfar_any (c : ByteArray) (a : Int) (w : World) (hc : c.size ≤ 9223372036854775807) : Calls Try.prog 22 #[.string c, .int .i64 a] w fun e w' => e = .returned (.bool (farB c.data.toList a)) ∧ w = w' := by
  unfold farB
  rw [size_list]
  rcases h1 : decide (a < -16) with _ | _
  · obtain ⟨B, hB⟩ : ∃ B, decide ((c.size : Int) ≤ a) = B := ⟨_, rfl⟩
    rw [hB]
    go_enter Try.func22, Try.ntmps22
    go_wp2
    go_ret
    exact ⟨rfl, rfl⟩
  · go_enter Try.func22, Try.ntmps22
    go_wp2
    go_ret
    exact ⟨rfl, rfl⟩
/-- The byte at an index; 0 if there is none. -/
def rcell (c : ByteArray) (i : Int) : UInt8 := if 0 ≤ i then (c.data.toList[i.toNat]?).getD 0 else 0
theorem rcell_any (c : ByteArray) (a : Int) (w : World) (hc : c.size ≤ 9223372036854775807) : Calls Try.prog 23 #[.string c, .int .i64 a] w fun e w' => e = .returned (.int .u8 ((rcell c a).toNat : Int)) ∧ w = w' := by
  by_cases h0 : a < 0
  · have e : rcell c a = 0 := by unfold rcell; rw [if_neg (by omega)]
    rw [e]
    have d1 : decide (a < 0) = true := decide_eq_true h0
    go_enter Try.func23, Try.ntmps23
    go_wp2
    go_ret
    exact ⟨rfl, rfl⟩
  · have d1 : decide (a < 0) = false := decide_eq_false h0
    by_cases h1 : (c.size : Int) ≤ a
    · have e : rcell c a = 0 := by
        unfold rcell
        rw [if_pos (by omega), List.getElem?_eq_none (by rw [size_list]; omega)]
        rfl
      rw [e]
      have d2 : decide ((c.size : Int) ≤ a) = true := decide_eq_true h1
      go_enter Try.func23, Try.ntmps23
      go_wp2
      go_ret
      exact ⟨rfl, rfl⟩
    · obtain ⟨A, rfl⟩ : ∃ A : Nat, a = A := ⟨a.toNat, by omega⟩
      have hA : A < c.size := by omega
      have e : rcell c (A : Int) = c[A]'hA := by
        unfold rcell
        rw [if_pos (by omega)]
        show (c.data.toList[A]?).getD 0 = _
        rw [List.getElem?_eq_getElem (by rw [size_list]; exact hA)]
        rfl
      rw [e]
      have d2 : decide ((c.size : Int) ≤ (A : Int)) = false := decide_eq_false h1
      have A0 : (0 : Int) ≤ (A : Int) := by omega
      have A1 : (A : Int) < (c.size : Int) := by omega
      go_enter Try.func23, Try.ntmps23
      go_wp2
      go_ret
      exact ⟨rfl, rfl⟩
end Go.Proofs.Ytpekdmplphpheaa.M12
