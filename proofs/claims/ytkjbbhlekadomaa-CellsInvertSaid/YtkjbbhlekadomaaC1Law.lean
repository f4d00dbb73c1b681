/- The walks of the laws CellsCheck and CellsInvert. -/
import Derived.Test.YtkjbbhlekadomaaC1Alive
import Derived.Test.YtkjbbhlekadomaaC1RInv
namespace Go.Proofs.Ytkjbbhlekadomaa.C1
open Go.RowKit Mem

theorem beq_self_u8 (l : List UInt8) : (l == l) = true := by simp

set_option maxHeartbeats 1000000 in
theorem walk_check (s : ByteArray) (w : World) (_ : s.size ≤ 140737488351232) :
    Calls Try.prog 3 #[.string s] w fun e w' => e = .returned (.bool true) ∧ Below w.heap.size w w' := by
  by_cases hs : s.size ≤ 4000
  · go_enter Try.func3, Try.ntmps3
    go_wp2_with fail
    refine (alive_any _).mono ?_
    rintro e w1 ⟨rfl, hb⟩
    go_wp2_with (first
      | (go_at_call 12; refine (check_any _ _ (by omega)).mono ?_; rintro e w' ⟨rfl, rfl⟩)
      | (go_at_call 13; refine (rcheck_any _ _ (by omega)).mono ?_; rintro e w' ⟨rfl, rfl⟩)
      | (go_at_call 14; refine (unreadable_any _ _ (by omega)).mono ?_; rintro e w' ⟨rfl, rfl⟩)
      | (go_at_call 15; refine (runreadable_any _ _ (by omega)).mono ?_; rintro e w' ⟨rfl, rfl⟩)
      | (go_at_call 16; refine (invert_any _ _ (by omega)).mono ?_; rintro e w2 ⟨rfl, hb2⟩)
      | (go_at_call 17; refine (rinvert_any _ _ (by omega)).mono ?_; rintro e w3 ⟨rfl, hb3⟩))
    go_ret
    exact ⟨rfl, chain (chain hb hb2) hb3⟩
  · go_enter Try.func3, Try.ntmps3
    go_wp2_with fail
    refine (alive_any _).mono ?_
    rintro e w1 ⟨rfl, hb⟩
    have hgt : (4000 : Int) < (s.size : Int) := by omega
    go_wp2
    go_ret
    exact ⟨rfl, hb⟩

theorem invC_invC (c : UInt8) : invC (invC c) = c := by
  unfold invC
  by_cases h1 : c = 48
  · subst h1; rfl
  · by_cases h2 : c = 49
    · subst h2; rfl
    · rw [if_neg h1, if_neg h2, if_neg h1, if_neg h2]
theorem inv_inv (l : List UInt8) : inv (inv l) = l := by
  unfold inv
  rw [List.map_map]
  conv => rhs; rw [← List.map_id l]
  congr 1
  funext c
  exact invC_invC c
theorem invC_63 (c : UInt8) : (invC c == 63) = (c == 63) := by
  unfold invC
  by_cases h1 : c = 48
  · subst h1; rfl
  · by_cases h2 : c = 49
    · subst h2; rfl
    · rw [if_neg h1, if_neg h2]
theorem unr_inv (l : List UInt8) : unr (inv l) = unr l := by
  unfold unr inv
  rw [List.filter_map, List.length_map]
  congr 2
  funext c
  exact invC_63 c
theorem okB_inv (c : UInt8) : okB (invC c) = okB c := by
  unfold invC
  by_cases h1 : c = 48
  · subst h1; rfl
  · by_cases h2 : c = 49
    · subst h2; rfl
    · rw [if_neg h1, if_neg h2]
theorem chk_inv (l : List UInt8) : chk (inv l) = chk l := by
  unfold chk inv
  rw [List.all_map, show okB ∘ invC = okB from funext okB_inv]
theorem inv_len (l : List UInt8) : (inv l).length = l.length := by simp [inv]

/-- The contracts at what Invert made. -/
theorem invert_back (s : ByteArray) (w : World) (hs : s.size ≤ 1000000) :
    Calls Try.prog 16 #[.string ⟨(inv s.data.toList).toArray⟩] w fun e w' => e = .returned (.string s) ∧ Below w.heap.size w w' := by
  refine (invert_any ⟨(inv s.data.toList).toArray⟩ w (by rw [str_size, inv_len]; exact hs)).mono ?_
  rintro e w' ⟨he, hb⟩
  exact ⟨he.trans (ret_string (inv_inv _)), hb⟩
theorem unreadable_inv (s : ByteArray) (w : World) (hs : s.size ≤ 1000000) :
    Calls Try.prog 14 #[.string ⟨(inv s.data.toList).toArray⟩] w fun e w' => e = .returned (.int .i64 (unr s.data.toList)) ∧ w = w' := by
  refine (unreadable_any ⟨(inv s.data.toList).toArray⟩ w (by rw [str_size, inv_len]; exact hs)).mono ?_
  rintro e w' ⟨he, hb⟩
  exact ⟨he.trans (ret_int (by rw [str_list, unr_inv])), hb⟩
theorem check_inv (s : ByteArray) (w : World) (hs : s.size ≤ 1000000) :
    Calls Try.prog 12 #[.string ⟨(inv s.data.toList).toArray⟩] w fun e w' => e = .returned (.int .i64 (chk s.data.toList)) ∧ w = w' := by
  refine (check_any ⟨(inv s.data.toList).toArray⟩ w (by rw [str_size, inv_len]; exact hs)).mono ?_
  rintro e w' ⟨he, hb⟩
  exact ⟨he.trans (ret_int (by rw [str_list, chk_inv])), hb⟩

set_option maxHeartbeats 1000000 in
theorem walk_invert (s : ByteArray) (w : World) (_ : s.size ≤ 140737488351232) :
    Calls Try.prog 9 #[.string s] w fun e w' => e = .returned (.bool true) ∧ Below w.heap.size w w' := by
  by_cases hs : s.size ≤ 4000
  · go_enter Try.func9, Try.ntmps9
    go_wp2_with fail
    refine (alive_any _).mono ?_
    rintro e w1 ⟨rfl, hb⟩
    go_wp2_with fail
    refine (invert_any s _ (by omega)).mono ?_
    rintro e w2 ⟨rfl, hb2⟩
    go_wp2_with fail
    refine (invert_back s _ (by omega)).mono ?_
    rintro e w3 ⟨rfl, hb3⟩
    go_wp2_with fail
    refine (unreadable_inv s _ (by omega)).mono ?_
    rintro e w' ⟨rfl, rfl⟩
    go_wp2_with fail
    refine (unreadable_any s _ (by omega)).mono ?_
    rintro e w' ⟨rfl, rfl⟩
    go_wp2_with fail
    refine (check_inv s _ (by omega)).mono ?_
    rintro e w' ⟨rfl, rfl⟩
    go_wp2_with fail
    refine (check_any s _ (by omega)).mono ?_
    rintro e w' ⟨rfl, rfl⟩
    go_wp2
    go_ret
    exact ⟨rfl, chain (chain hb hb2) hb3⟩
  · go_enter Try.func9, Try.ntmps9
    go_wp2_with fail
    refine (alive_any _).mono ?_
    rintro e w1 ⟨rfl, hb⟩
    have hgt : (4000 : Int) < (s.size : Int) := by omega
    go_wp2
    go_ret
    exact ⟨rfl, hb⟩
end Go.Proofs.Ytkjbbhlekadomaa.C1
