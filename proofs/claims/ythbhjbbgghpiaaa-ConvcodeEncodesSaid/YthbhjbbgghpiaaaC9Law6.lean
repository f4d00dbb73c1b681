/- The walks of the laws ConvcodeEncodes and ConvcodeExtracts, under the package's contracts. -/
import Derived.Test.YthbhjbbgghpiaaaC9Dev
import Derived.Test.YthbhjbbgghpiaaaC9Ref3
namespace Go.Proofs.Ythbhjbbgghpiaaa.C9
open Go.RowKit Mem
set_option linter.unusedVariables false
set_option linter.unusedSimpArgs false

set_option maxRecDepth 100000 in
set_option maxHeartbeats 4000000 in
theorem walk_extracts (D : Dev) (c : ByteArray) (w : World) (hc : c.size ≤ 140737488351232) :
    Calls Try.prog 4 #[.string c] w fun e w' => e = .returned (.bool true) ∧ Below w.heap.size w w' := by
  have cA := Lib.hid (alive_any D w)
  by_cases h1 : c.size ≤ 2000
  · have d1 : decide (2000 < c.size) = false := decide_eq_false (by omega)
    have d1' : decide ((2000 : Int) < (c.size : Int)) = false := decide_eq_false (by omega)
    have c1 := Lib.hid (fun W => D.extract c W (by omega))
    have c2 := Lib.hid (fun W => rextract_any c W (by omega))
    clear h1 hc
    go_enter Try.func4, Try.ntmps4
    go_wp2_with fail
    refine cA.out.mono ?_
    rintro e w1 ⟨rfl, hB⟩
    go_wp2_with fail
    refine (c1.out _).mono ?_
    rintro e w2 ⟨X, k1, hq1, rfl, hb⟩
    replace hB := chain hB hb
    clear hb
    replace hq1 := Lib.hid hq1
    go_wp2_with fail
    refine (c2.out _).mono ?_
    rintro e w3 ⟨Y, k2, hq2, rfl, hb⟩
    obtain ⟨rfl, rfl⟩ := hq1.out.only hq2
    replace hB := chain hB hb
    clear hb hq2 hq1
    go_wp2
    go_ret
    exact ⟨rfl, hB⟩
  · have d1 : decide (2000 < c.size) = true := decide_eq_true (by omega)
    have d1' : decide ((2000 : Int) < (c.size : Int)) = true := decide_eq_true (by omega)
    clear h1 hc
    go_enter Try.func4, Try.ntmps4
    go_wp2_with fail
    refine cA.out.mono ?_
    rintro e w1 ⟨rfl, hB⟩
    go_wp2
    go_ret
    exact ⟨rfl, hB⟩
set_option maxRecDepth 100000 in
set_option maxHeartbeats 4000000 in
theorem walk_encodes (D : Dev) (s : ByteArray) (w : World) (hs : s.size ≤ 140737488351232) :
    Calls Try.prog 3 #[.string s] w fun e w' => e = .returned (.bool true) ∧ Below w.heap.size w w' := by
  have cA := Lib.hid (alive_any D w)
  obtain ⟨b1, hb1⟩ : ∃ b, decide (2000 < s.size) = b := ⟨_, rfl⟩
  obtain ⟨b2, hb2⟩ : ∃ b, decide (s.size ≤ 65536) = b := ⟨_, rfl⟩
  obtain ⟨b3, hb3⟩ : ∃ b, decide (70000 < s.size) = b := ⟨_, rfl⟩
  have hb1' : decide ((2000 : Int) < (s.size : Int)) = b1 := by rw [← hb1]; exact decide_eq_decide.2 (by omega)
  have hb2' : decide ((s.size : Int) ≤ (65536 : Int)) = b2 := by rw [← hb2]; exact decide_eq_decide.2 (by omega)
  have hb3' : decide ((70000 : Int) < (s.size : Int)) = b3 := by rw [← hb3]; exact decide_eq_decide.2 (by omega)
  cases b3
  · have h7 : s.size ≤ 70000 := by simpa using hb3
    have c1 := Lib.hid (fun W => D.encode s W (by omega))
    have c2 := Lib.hid (fun W => rencode_any s W (by omega))
    have c3 := Lib.hid (fun W => D.weight s W (by omega))
    have c4 := Lib.hid (fun W => rweight_any s W (by omega))
    clear h7 hs
    cases b1 <;> cases b2
    case true.true =>
      go_enter Try.func3, Try.ntmps3
      go_wp2_with fail
      refine cA.out.mono ?_
      rintro e w1 ⟨rfl, hB⟩
      go_wp2
      go_ret
      exact ⟨rfl, hB⟩
    all_goals
      go_enter Try.func3, Try.ntmps3
      go_wp2_with fail
      refine cA.out.mono ?_
      rintro e w1 ⟨rfl, hB⟩
      go_wp2_with fail
      refine (c1.out _).mono ?_
      rintro e w2 ⟨X, k1, hq1, rfl, hb⟩
      replace hB := chain hB hb
      clear hb
      replace hq1 := Lib.hid hq1
      go_wp2_with fail
      refine (c2.out _).mono ?_
      rintro e w3 ⟨Y, k2, hq2, rfl, hb⟩
      obtain ⟨rfl, rfl⟩ := hq1.out.only hq2
      replace hB := chain hB hb
      clear hb hq2 hq1
      go_wp2_with fail
      refine (c3.out _).mono ?_
      rintro e w4 ⟨n1, k2, hq1, rfl, hb⟩
      replace hB := chain hB hb
      clear hb
      replace hq1 := Lib.hid hq1
      go_wp2_with fail
      refine (c4.out _).mono ?_
      rintro e w5 ⟨n2, k3, hq2, rfl, hb⟩
      obtain ⟨rfl, rfl⟩ := hq1.out.only hq2
      replace hB := chain hB hb
      clear hb hq2 hq1
      go_wp2
      go_ret
      exact ⟨rfl, hB⟩
  · clear hs
    cases b1 <;> cases b2
    all_goals
      go_enter Try.func3, Try.ntmps3
      go_wp2_with fail
      refine cA.out.mono ?_
      rintro e w1 ⟨rfl, hB⟩
      go_wp2
      go_ret
      exact ⟨rfl, hB⟩
end Go.Proofs.Ythbhjbbgghpiaaa.C9
