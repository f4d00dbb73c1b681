/- The walk of the law CellsRoundTrip, and what ToBytes makes of what FromBytes made. -/
import Derived.Test.YtkjbbhlekadomaaC1Law2
namespace Go.Proofs.Ytkjbbhlekadomaa.C1
open Go.RowKit Mem

theorem byte_cases (p : UInt8 → Bool) (h : ∀ n : Fin 256, p (UInt8.ofNat n.val) = true) (c : UInt8) : p c = true := by
  have := h ⟨c.toNat, c.toNat_lt⟩
  simpa using this
theorem num_bits8 (c : UInt8) : num (bits8 c) = c.toNat := by
  have := byte_cases (fun c => num (bits8 c) == c.toNat) (by decide +kernel) c
  simpa using this
theorem unr_bits8 (c : UInt8) : unr (bits8 c) = 0 := by
  have := byte_cases (fun c => unr (bits8 c) == 0) (by decide +kernel) c
  simpa using this
theorem ok_bits8 (c : UInt8) : (bits8 c).all okB = true := by
  have := byte_cases (fun c => (bits8 c).all okB) (by decide +kernel) c
  simpa using this
theorem chk_fromB (l : List UInt8) : chk (fromB l) = 0 := by
  have : (fromB l).all okB = true := by
    induction l with
    | nil => rfl
    | cons c l ih => simp only [fromB, List.flatMap_cons, List.all_append] at ih ⊢; rw [ok_bits8, ih]; rfl
  unfold chk
  rw [if_pos this]
theorem fromB_append (a b : List UInt8) : fromB (a ++ b) = fromB a ++ fromB b := by simp [fromB]
theorem grp_fromB (l : List UInt8) : ∀ i (h : i < l.length), grp (fromB l) i = bits8 l[i] := by
  induction l with
  | nil => intro i h; simp at h
  | cons c l ih =>
    intro i h
    have e : fromB (c :: l) = bits8 c ++ fromB l := by simp [fromB]
    cases i with
    | zero =>
      rw [e]
      show ((bits8 c ++ fromB l).drop 0).take 8 = bits8 c
      rw [List.drop_zero, List.take_append_of_le_length (by rw [bits8_len]; exact Nat.le_refl _)]
      rfl
    | succ i =>
      rw [e]
      have hi : i < l.length := by simpa using h
      have := ih i hi
      unfold grp at this ⊢
      rw [show 8 * (i + 1) = (bits8 c).length + 8 * i by rw [bits8_len]; omega, List.drop_append, List.drop_of_length_le (show (bits8 c).length ≤ (bits8 c).length + 8 * i by omega)]
      simpa using this
theorem toB_fromB (l : List UInt8) : toB (fromB l) l.length = l := by
  apply List.ext_getElem
  · simp [toB]
  · intro i h1 h2
    simp only [toB, List.getElem_map, List.getElem_range]
    rw [grp_fromB l i h2, num_bits8]
    simp
theorem bad_fromB (l : List UInt8) : bad (fromB l) l.length = [] := by
  unfold bad
  rw [List.filter_eq_nil_iff]
  intro i hi
  rw [grp_fromB l i (by simpa using hi), unr_bits8]
  decide
theorem tbE_fromB (l : List UInt8) : tbE (fromB l) = 0 := tbE_ok (chk_fromB l) (by rw [fromB_len]; omega)
theorem tbS_fromB (l : List UInt8) : tbS (fromB l) = l := by
  rw [tbS_ok (tbE_fromB l), fromB_len, show 8 * l.length / 8 = l.length by omega, toB_fromB]
theorem tbL_fromB (l : List UInt8) : tbL (fromB l) = [] := by
  rw [tbL_ok (tbE_fromB l), fromB_len, show 8 * l.length / 8 = l.length by omega, bad_fromB]

/-- The contracts at what FromBytes made. -/
theorem toBytes_from (s : ByteArray) (w : World) (hs : s.size ≤ 12500) :
    Calls Try.prog 18 #[.string ⟨(fromB s.data.toList).toArray⟩] w fun e w' => ∃ A cap, e = .returned (.tuple #[.string s, .slice A 0 cap, .int .i64 0]) ∧ Below w.heap.size w w' := by
  refine (toBytes_any ⟨(fromB s.data.toList).toArray⟩ w (by rw [str_size, fromB_len]; simp; omega)).mono ?_
  rintro e w' ⟨v, he, hown, hb⟩
  rw [str_list, tbS_fromB, tbE_fromB] at he
  rw [str_list, tbL_fromB] at hown
  obtain ⟨A, cap, rfl, _⟩ := own_form hown
  exact ⟨A, cap, he, hb⟩
theorem check_from (s : ByteArray) (w : World) (hs : s.size ≤ 12500) :
    Calls Try.prog 12 #[.string ⟨(fromB s.data.toList).toArray⟩] w fun e w' => e = .returned (.int .i64 0) ∧ w = w' := by
  refine (check_any ⟨(fromB s.data.toList).toArray⟩ w (by rw [str_size, fromB_len]; simp; omega)).mono ?_
  rintro e w' ⟨he, hb⟩
  exact ⟨he.trans (ret_int (by rw [str_list, chk_fromB])), hb⟩
theorem str_append (a b : List UInt8) : (⟨(a ++ b).toArray⟩ : ByteArray) = ⟨a.toArray⟩ ++ ⟨b.toArray⟩ := by
  apply ByteArray.ext
  simp
theorem str_data_append (a b : ByteArray) : (a ++ b).data.toList = a.data.toList ++ b.data.toList := by simp
theorem fromBytes_append (a b : ByteArray) (w : World) (hs : a.size + b.size ≤ 12500) :
    Calls Try.prog 20 #[.string (a ++ b)] w fun e w' => e = .returned (.string (⟨(fromB a.data.toList).toArray⟩ ++ ⟨(fromB b.data.toList).toArray⟩)) ∧ Below w.heap.size w w' := by
  refine (fromBytes_any (a ++ b) w (by simp; omega)).mono ?_
  rintro e w' ⟨he, hb⟩
  refine ⟨he.trans ?_, hb⟩
  rw [str_data_append, fromB_append, str_append]

set_option maxHeartbeats 1000000 in
theorem walk_round (b c : ByteArray) (w : World) (hb : b.size ≤ 140737488351232) (hc : c.size ≤ 140737488351232) :
    Calls Try.prog 6 #[.string b, .string c] w fun e w' => e = .returned (.bool true) ∧ Below w.heap.size w w' := by
  by_cases hs : b.size + c.size ≤ 1000
  · have hle : (b.size : Int) + (c.size : Int) ≤ 1000 := by omega
    have hlen := Lib.hid (show (⟨(fromB b.data.toList).toArray⟩ : ByteArray).size = 8 * b.size by rw [str_size, fromB_len]; simp)
    have hl1 : (fromB b.data.toList).length ≤ 8000 := by rw [fromB_len]; simp; omega
    have hl2 : (fromB c.data.toList).length ≤ 8000 := by rw [fromB_len]; simp; omega
    have hq : (((fromB b.data.toList).length : Int) == 8 * (b.size : Int)) = true := by rw [fromB_len]; simp
    go_enter Try.func6, Try.ntmps6
    go_wp2_with fail
    refine (alive_any _).mono ?_
    rintro e w1 ⟨rfl, hb1⟩
    go_wp2_with fail
    refine (fromBytes_any b _ (by omega)).mono ?_
    rintro e w2 ⟨rfl, hb2⟩
    go_wp2_with fail
    refine (toBytes_from b _ (by omega)).mono ?_
    rintro e w3 ⟨A, cap, rfl, hb3⟩
    go_wp2_with fail
    refine (fromBytes_append b c _ (by omega)).mono ?_
    rintro e w4 ⟨rfl, hb4⟩
    go_wp2_with fail
    refine (fromBytes_any c _ (by omega)).mono ?_
    rintro e w5 ⟨rfl, hb5⟩
    go_wp2_with fail
    refine (check_from b _ (by omega)).mono ?_
    rintro e w' ⟨rfl, rfl⟩
    go_wp2
    go_ret
    exact ⟨rfl, chain (chain (chain (chain hb1 hb2) hb3) hb4) hb5⟩
  · have hgt : (1000 : Int) < (b.size : Int) + (c.size : Int) := by omega
    go_enter Try.func6, Try.ntmps6
    go_wp2_with fail
    refine (alive_any _).mono ?_
    rintro e w1 ⟨rfl, hb1⟩
    go_wp2
    go_ret
    exact ⟨rfl, hb1⟩
end Go.Proofs.Ytkjbbhlekadomaa.C1
