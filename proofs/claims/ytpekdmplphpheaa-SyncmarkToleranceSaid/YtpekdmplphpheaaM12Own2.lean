/- The contracts of strings.HasPrefix and of layer 12's IsPlain. -/
import Derived.Test.YtpekdmplphpheaaM12Own1
namespace Go.Proofs.Ytpekdmplphpheaa.M12
open Go.RowKit Mem
set_option linter.unusedVariables false
set_option linter.unusedSimpArgs false

theorem str_eq {a b : ByteArray} (h : a.data.toList = b.data.toList) : a = b := ByteArray.ext (Array.toList_inj.1 h)
theorem size_list (a : ByteArray) : a.data.toList.length = a.size := by simp
theorem str_beq (a b : ByteArray) : (a.toList == b.toList) = decide (a.data.toList = b.data.toList) := by
  rw [ByteArray.toList_eq, ByteArray.toList_eq, Bool.eq_iff_iff, beq_iff_eq, decide_eq_true_iff]
theorem ext_list (a : ByteArray) (m n : Nat) : (a.extract m n).data.toList = (a.data.toList.take n).drop m := by
  rw [ByteArray.data_extract, Array.toList_extract]
  simp [List.extract, List.drop_take]
set_option maxRecDepth 100000 in
set_option maxHeartbeats 2000000 in
theorem has_prefix0 (s p : ByteArray) (w : World) (hs : s.size ≤ 9223372036854775807) (hp : p.size ≤ 9223372036854775807) :
    Calls Try.prog 27 #[.string s, .string p] w fun e w' => e = .returned (.bool (decide (s.data.toList.take p.size = p.data.toList))) ∧ w = w' := by
  by_cases h : p.size ≤ s.size
  · have d1 : decide ((p.size : Int) ≤ (s.size : Int)) = true := decide_eq_true (by omega)
    have d1' : decide (p.size ≤ s.size) = true := decide_eq_true h
    have hb := str_beq (s.extract 0 p.size) p
    rw [ext_list, List.drop_zero] at hb
    obtain ⟨B, hB⟩ : ∃ B, decide (s.data.toList.take p.size = p.data.toList) = B := ⟨_, rfl⟩
    rw [hB] at hb ⊢
    clear hB
    have p0 : (0 : Int) ≤ (p.size : Int) := by omega
    have p1 : (p.size : Int) ≤ (s.size : Int) := by omega
    have p2 : (s.size : Int) ≤ 9223372036854775807 := by omega
    go_enter Try.func27, Try.ntmps27
    rcases B with _ | _
    · go_wp2
      go_ret
      exact ⟨rfl, rfl⟩
    · go_wp2
      go_ret
      exact ⟨rfl, rfl⟩
  · have d1 : decide ((p.size : Int) ≤ (s.size : Int)) = false := decide_eq_false (by omega)
    have d1' : decide (p.size ≤ s.size) = false := decide_eq_false h
    have hb : decide (s.data.toList.take p.size = p.data.toList) = false := decide_eq_false fun e => by
      have := congrArg List.length e
      rw [List.length_take, size_list, size_list] at this
      omega
    rw [hb]
    go_enter Try.func27, Try.ntmps27
    go_wp2
    go_ret
    exact ⟨rfl, rfl⟩
theorem has_prefix (s p : ByteArray) (w : World) (hs : s.size ≤ 9223372036854775807) (hp : p.size ≤ 9223372036854775807) :
    Calls Try.prog 24 #[.string s, .string p] w fun e w' => e = .returned (.bool (decide (s.data.toList.take p.size = p.data.toList))) ∧ w = w' := by
  have c := Lib.hid (fun W => has_prefix0 s p W hs hp)
  obtain ⟨B, hB⟩ : ∃ B, decide (s.data.toList.take p.size = p.data.toList) = B := ⟨_, rfl⟩
  rw [hB] at c ⊢
  clear hB
  go_enter Try.func24, Try.ntmps24
  go_wp2_with (go_at_call 27; refine (c.out _).mono ?_; rintro e w1 ⟨rfl, rfl⟩)
  go_ret
  exact ⟨rfl, rfl⟩
set_option maxRecDepth 100000 in
set_option maxHeartbeats 2000000 in
theorem isplain_any (c : ByteArray) (a : Int) (w : World) (hc : c.size ≤ 9223372036854775807) (a1 : -9223372036854775808 ≤ a) (a2 : a ≤ 9223372036854775807) :
    Calls Try.prog 13 #[.string c, .int .i64 a] w fun e w' => e = .returned (.bool (pp c.data.toList a)) ∧ w = w' := by
  by_cases h0 : a < 0
  · have d1 : decide (0 ≤ a) = false := decide_eq_false (by omega)
    rw [pp_far (.inl h0)]
    go_enter Try.func13, Try.ntmps13
    go_wp2
    go_ret
    exact ⟨rfl, rfl⟩
  · obtain ⟨A, rfl⟩ : ∃ A : Nat, a = A := ⟨a.toNat, by omega⟩
    have d1 : decide (0 ≤ (A : Int)) = true := decide_eq_true (by omega)
    by_cases h1 : A ≤ c.size
    · have d2 : decide ((A : Int) ≤ (c.size : Int)) = true := decide_eq_true (by omega)
      have d2' : decide (A ≤ c.size) = true := decide_eq_true (by omega)
      have A0 : (0 : Int) ≤ (A : Int) := by omega
      have A1 : (A : Int) ≤ (c.size : Int) := by omega
      have cc := Lib.hid (fun W => has_prefix (c.extract A c.size) plB W (by rw [ByteArray.size_extract]; omega) (by decide))
      have e : decide ((c.extract A c.size).data.toList.take plB.size = plB.data.toList) = pp c.data.toList (A : Int) := by
        rw [Bool.eq_iff_iff, decide_eq_true_iff, pp_take, ext_list, List.take_of_length_le (l := c.data.toList) (by simp)]
        rfl
      obtain ⟨B, hB⟩ : ∃ B, pp c.data.toList (A : Int) = B := ⟨_, rfl⟩
      rw [e, hB] at cc
      rw [hB]
      unfold plB at cc
      clear e hB
      go_enter Try.func13, Try.ntmps13
      rcases B with _ | _
      · go_wp2_with fail
        refine (cc.out _).mono ?_
        rintro e w1 ⟨rfl, rfl⟩
        go_wp2
        go_ret
        exact ⟨rfl, rfl⟩
      · go_wp2_with fail
        refine (cc.out _).mono ?_
        rintro e w1 ⟨rfl, rfl⟩
        go_wp2
        go_ret
        exact ⟨rfl, rfl⟩
    · have d2 : decide ((A : Int) ≤ (c.size : Int)) = false := decide_eq_false (by omega)
      have d2' : decide (A ≤ c.size) = false := decide_eq_false (by omega)
      rw [pp_far (.inr (by rw [size_list]; omega))]
      go_enter Try.func13, Try.ntmps13
      go_wp2
      go_ret
      exact ⟨rfl, rfl⟩
end Go.Proofs.Ytpekdmplphpheaa.M12
