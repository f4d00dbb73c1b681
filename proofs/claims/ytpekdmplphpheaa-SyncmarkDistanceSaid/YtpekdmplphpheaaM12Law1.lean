/- The walks of the laws SyncmarkDistance and SyncmarkFind, under the package's contracts. -/
import Derived.Test.YtpekdmplphpheaaM12Dev
import Derived.Test.YtpekdmplphpheaaM12Ref2
namespace Go.Proofs.Ytpekdmplphpheaa.M12
open Go.RowKit Mem
set_option linter.unusedVariables false
set_option linter.unusedSimpArgs false

set_option maxRecDepth 100000 in
set_option maxHeartbeats 4000000 in
theorem walk_find (D : Dev) (c : ByteArray) (a : Int) (w : World) (hc : c.size ≤ 140737488351232) (wr : (Lit.int .i64 a).wf = true) :
    Calls Try.prog 4 #[.string c, .int .i64 a] w fun e w' => e = .returned (.bool true) ∧ Below w.heap.size w w' := by
  have cA := Lib.hid (fun W => alive_any D W)
  obtain ⟨a1, a2⟩ : -9223372036854775808 ≤ a ∧ a ≤ 9223372036854775807 := (Lit.wf_int_iff .i64 _).1 wr
  clear wr
  by_cases h1 : c.size ≤ 2000
  · have d1 : decide ((2000 : Int) < (c.size : Int)) = false := decide_eq_false (by omega)
    have d1' : decide (2000 < c.size) = false := decide_eq_false (by omega)
    obtain ⟨I, hI⟩ : ∃ F : Int, fdI c.data.toList a = F := ⟨_, rfl⟩
    obtain ⟨B, hB⟩ : ∃ F : Bool, fdB c.data.toList a = F := ⟨_, rfl⟩
    have c1 := Lib.hid (fun W => D.find_as hc a1 a2 hI hB W)
    have c2 := fun W => rfind_any c a W hc a1 a2
    rw [hI, hB] at c2
    replace c2 := Lib.hid c2
    clear h1 hI hB hc
    go_enter Try.func4, Try.ntmps4
    go_wp2_with fail
    refine (cA.out _).mono ?_
    rintro e w1 ⟨rfl, hB⟩
    go_wp2_with fail
    refine (c1.out _).mono ?_
    rintro e w2 ⟨rfl, hb⟩
    replace hB := chain hB hb
    clear hb
    go_wp2_with (go_at_call 20; refine (c2.out _).mono ?_; rintro e w5 ⟨rfl, rfl⟩)
    go_ret
    exact ⟨rfl, hB⟩
  · have d1 : decide ((2000 : Int) < (c.size : Int)) = true := decide_eq_true (by omega)
    have d1' : decide (2000 < c.size) = true := decide_eq_true (by omega)
    clear h1 hc a1 a2
    go_enter Try.func4, Try.ntmps4
    go_wp2_with fail
    refine (cA.out _).mono ?_
    rintro e w1 ⟨rfl, hB⟩
    go_wp2
    go_ret
    exact ⟨rfl, hB⟩
set_option maxRecDepth 100000 in
set_option maxHeartbeats 4000000 in
theorem walk_distance (D : Dev) (c : ByteArray) (a : Int) (w : World) (hc : c.size ≤ 140737488351232) (wr : (Lit.int .i64 a).wf = true) :
    Calls Try.prog 3 #[.string c, .int .i64 a] w fun e w' => e = .returned (.bool true) ∧ Below w.heap.size w w' := by
  have cA := Lib.hid (fun W => alive_any D W)
  obtain ⟨a1, a2⟩ : -9223372036854775808 ≤ a ∧ a ≤ 9223372036854775807 := (Lit.wf_int_iff .i64 _).1 wr
  clear wr
  by_cases h1 : c.size ≤ 2000
  · have d1 : decide ((2000 : Int) < (c.size : Int)) = false := decide_eq_false (by omega)
    have d1' : decide (2000 < c.size) = false := decide_eq_false (by omega)
    obtain ⟨d, hd⟩ : ∃ d, ds c.data.toList a = d := ⟨_, rfl⟩
    obtain ⟨B, hB⟩ : ∃ F : Bool, pp c.data.toList a = F := ⟨_, rfl⟩
    have c1 := Lib.hid (fun W => D.dist_as hc a1 a2 hd W)
    have c2 := fun W => rdistance_any c a W hc
    rw [hd] at c2
    replace c2 := Lib.hid c2
    have c3 := Lib.hid (fun W => D.isp_as hc a1 a2 hB W)
    have c4 := fun W => risplain_any c a W hc
    rw [hB] at c4
    replace c4 := Lib.hid c4
    obtain ⟨M, hM⟩ : ∃ M, mkB = M := ⟨_, rfl⟩
    obtain ⟨P, hP⟩ : ∃ P, plB = P := ⟨_, rfl⟩
    have c5 := fun W => D.mark W
    have c6 := fun W => rmark_any W
    have c7 := fun W => D.plain W
    have c8 := fun W => rplain_any W
    rw [hM] at c5 c6
    rw [hP] at c7 c8
    replace c5 := Lib.hid c5
    replace c6 := Lib.hid c6
    replace c7 := Lib.hid c7
    replace c8 := Lib.hid c8
    clear h1 hd hB hc hM hP
    go_enter Try.func3, Try.ntmps3
    go_wp2_with fail
    refine (cA.out _).mono ?_
    rintro e w1 ⟨rfl, hB⟩
    go_wp2_with fail
    refine (c1.out _).mono ?_
    rintro e w2 ⟨rfl, n, rfl⟩
    replace hB := chainN hB n
    go_wp2_with (first
      | (go_at_call 12; refine (c2.out _).mono ?_; rintro e w5 ⟨rfl, rfl⟩)
      | (go_at_call 13; refine (c3.out _).mono ?_; rintro e w5 ⟨rfl, rfl⟩)
      | (go_at_call 14; refine (c4.out _).mono ?_; rintro e w5 ⟨rfl, rfl⟩)
      | (go_at_call 15; refine (c5.out _).mono ?_; rintro e w5 ⟨rfl, rfl⟩)
      | (go_at_call 16; refine (c6.out _).mono ?_; rintro e w5 ⟨rfl, rfl⟩)
      | (go_at_call 17; refine (c7.out _).mono ?_; rintro e w5 ⟨rfl, rfl⟩)
      | (go_at_call 18; refine (c8.out _).mono ?_; rintro e w5 ⟨rfl, rfl⟩))
    go_ret
    exact ⟨rfl, hB⟩
  · have d1 : decide ((2000 : Int) < (c.size : Int)) = true := decide_eq_true (by omega)
    have d1' : decide (2000 < c.size) = true := decide_eq_true (by omega)
    clear h1 hc a1 a2
    go_enter Try.func3, Try.ntmps3
    go_wp2_with fail
    refine (cA.out _).mono ?_
    rintro e w1 ⟨rfl, hB⟩
    go_wp2
    go_ret
    exact ⟨rfl, hB⟩
end Go.Proofs.Ytpekdmplphpheaa.M12
