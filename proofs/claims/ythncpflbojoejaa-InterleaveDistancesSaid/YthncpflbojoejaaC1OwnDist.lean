/- The contract of layer 1's Distance: the number of positions at which both cells are readable and differ; or the first error. -/
import Derived.Test.YthncpflbojoejaaC1OwnCheck
namespace Go.Proofs.Ythncpflbojoejaa.C1
open Go.RowKit

def diffB (p : UInt8 × UInt8) : Bool := p.1 != p.2 && (p.1 != 63 && p.2 != 63)
def dis (a b : List UInt8) : Nat := ((a.zip b).filter diffB).length
/-- What Distance answers: the number, and the error's number. -/
def disN (a b : List UInt8) : Int := if chk a = 0 ∧ chk b = 0 ∧ a.length = b.length then (dis a b : Int) else 0
def disE (a b : List UInt8) : Int := if chk a = 0 ∧ chk b = 0 then (if a.length = b.length then 0 else 1) else 3

theorem chk_cases (l : List UInt8) : chk l = 0 ∨ chk l = 3 := by
  unfold chk
  split
  · exact .inl rfl
  · exact .inr rfl
theorem zip_snoc (a b : ByteArray) (k : Nat) (ha : k < a.size) (hb : k < b.size) : (a.data.toList.zip b.data.toList).take (k + 1) = (a.data.toList.zip b.data.toList).take k ++ [(a[k], b[k])] := by
  rw [List.take_succ_eq_append_getElem (by simp [List.length_zip]; omega)]
  simp only [List.getElem_zip]
  rfl
/-- The count over the first k positions. -/
def disTo (a b : ByteArray) (k : Nat) : Nat := (((a.data.toList.zip b.data.toList).take k).filter diffB).length
theorem disTo_le (a b : ByteArray) (k : Nat) : disTo a b k ≤ k := Nat.le_trans (List.length_filter_le _ _) (List.length_take_le _ _)
theorem disTo_zero (a b : ByteArray) : disTo a b 0 = 0 := by simp [disTo]
theorem disTo_all (a b : ByteArray) (h : a.size = b.size) : disTo a b a.size = dis a.data.toList b.data.toList := by
  unfold disTo dis
  rw [List.take_of_length_le (by simp [List.length_zip]; omega)]
theorem u8_ne (x y : UInt8) : (x != y) = ((x.toNat : Int) != (y.toNat : Int)) := by
  rw [Bool.eq_iff_iff]
  simp [← UInt8.toNat_inj]
  omega
theorem disTo_yes (a b : ByteArray) (k : Nat) (ha : k < a.size) (hb : k < b.size) (h1 : (((a[k]).toNat : Int) != ((b[k]).toNat : Int)) = true) (h2 : (((a[k]).toNat : Int) != 63) = true) (h3 : (((b[k]).toNat : Int) != 63) = true) :
    disTo a b (k + 1) = disTo a b k + 1 := by
  unfold disTo
  rw [zip_snoc a b k ha hb, List.filter_append, List.length_append]
  have : diffB (a[k], b[k]) = true := by
    unfold diffB
    rw [u8_ne, u8_ne, u8_ne]
    simp only [h1]
    rw [show (((63 : UInt8)).toNat : Int) = 63 from rfl, h2, h3]
    rfl
  simp [this]
theorem disTo_no (a b : ByteArray) (k : Nat) (ha : k < a.size) (hb : k < b.size) (h : (((a[k]).toNat : Int) != ((b[k]).toNat : Int)) = false ∨ (((a[k]).toNat : Int) != 63) = false ∨ (((b[k]).toNat : Int) != 63) = false) :
    disTo a b (k + 1) = disTo a b k := by
  unfold disTo
  rw [zip_snoc a b k ha hb, List.filter_append, List.length_append]
  have : diffB (a[k], b[k]) = false := by
    unfold diffB
    rw [u8_ne, u8_ne, u8_ne, show (((63 : UInt8)).toNat : Int) = 63 from rfl]
    rcases h with h | h | h <;> simp only [h, Bool.false_and, Bool.and_false]
  simp [this]
theorem disN_yes (a b : ByteArray) (ha : chk a.data.toList = 0) (hb : chk b.data.toList = 0) (h : a.size = b.size) : disN a.data.toList b.data.toList = (disTo a b a.size : Int) := by
  unfold disN
  rw [if_pos ⟨ha, hb, h⟩, disTo_all a b h]
theorem ret_two {x y x' y' : Int} (h : x = x') (h' : y = y') : Ending.returned (.tuple #[.int .i64 x, .int .i64 y]) = .returned (.tuple #[.int .i64 x', .int .i64 y']) := by rw [h, h']

theorem disE_eq {a b : List UInt8} (ha : chk a = 0) (hb : chk b = 0) (h : a.length = b.length) : disE a b = 0 := by unfold disE; rw [if_pos ⟨ha, hb⟩, if_pos h]
theorem disE_arg {a b : List UInt8} (ha : chk a = 0) (hb : chk b = 0) (h : a.length ≠ b.length) : disE a b = 1 := by unfold disE; rw [if_pos ⟨ha, hb⟩, if_neg h]
theorem disN_arg {a b : List UInt8} (h : a.length ≠ b.length) : disN a b = 0 := by unfold disN; rw [if_neg (fun x => h x.2.2)]
theorem disE_syn1 {a b : List UInt8} (ha : chk a = 3) : disE a b = 3 := by unfold disE; rw [if_neg (fun x => by have := x.1; omega)]
theorem disE_syn2 {a b : List UInt8} (hb : chk b = 3) : disE a b = 3 := by unfold disE; rw [if_neg (fun x => by have := x.2; omega)]
theorem disN_syn1 {a b : List UInt8} (ha : chk a = 3) : disN a b = 0 := by unfold disN; rw [if_neg (fun x => by have := x.1; omega)]
theorem disN_syn2 {a b : List UInt8} (hb : chk b = 3) : disN a b = 0 := by unfold disN; rw [if_neg (fun x => by have := x.2.1; omega)]

set_option maxHeartbeats 1000000 in
theorem distance_any (a b : ByteArray) (w : World) (hsa : a.size ≤ 1000000) (hsb : b.size ≤ 1000000) :
    Calls Try.prog 19 #[.string a, .string b] w fun e w' => e = .returned (.tuple #[.int .i64 (disN a.data.toList b.data.toList), .int .i64 (disE a.data.toList b.data.toList)]) ∧ ∃ n, w' = w.drewN n := by
  rcases chk_cases a.data.toList with ha | ha
  · rcases chk_cases b.data.toList with hb | hb
    · by_cases hl : a.size = b.size
      · have hNh := Lib.hid (disN_yes a b ha hb hl)
        have hEh := Lib.hid (disE_eq ha hb hl)
        have hlh := Lib.hid hl
        have hl1 : (((a.size : Nat) : Int) != ((b.size : Nat) : Int)) = false := by simp [hl]
        have hle : a.size ≤ b.size := by omega
        clear hl
        go_enter Try.func19, Try.ntmps19
        go_wp2_with (go_at_call 18; refine (check_any _ _ (by assumption)).mono ?_; rintro e w' ⟨rfl, rfl⟩)
        clear ha hb hl1
        go_loopw [8, 27] (fun u i wr => ∃ k : Nat, k ≤ a.size ∧ i = .int .i64 k ∧ u = .int .i64 (disTo a b k) ∧ ∃ n, wr = w.drewN n) (fun _ i _ => a.size - (intOf i).toNat)
        case atStart => exact ⟨0, Nat.zero_le _, rfl, by rw [disTo_zero]; rfl, 0, rfl⟩
        case round =>
          obtain ⟨k, hk, rfl, rfl, n, rfl⟩ := hrel
          have hd := disTo_le a b k
          by_cases hlt : k < a.size
          · have hltb : k < b.size := by omega
            have hI0 : (0 : Int) ≤ (k : Int) := by omega
            have hI1 : (k : Int) < (a.size : Int) := by omega
            have hI2 : (k : Int) < (b.size : Int) := by omega
            rcases h1 : (((a[k]).toNat : Int) != ((b[k]).toNat : Int)) with _ | _
            · have hn := Lib.hid (disTo_no a b k hlt hltb (.inl h1))
              go_wp2
              go_quiet (fail)
              go_wp2
              go_roundw
              case rel => exact ⟨k + 1, by omega, by go_num, by rw [hn.out], _, rfl⟩
              case measure => simp [intOf]; omega
            · rcases h2 : (((a[k]).toNat : Int) != 63) with _ | _
              · have hn := Lib.hid (disTo_no a b k hlt hltb (.inr (.inl h2)))
                go_wp2
                go_quiet (fail)
                go_wp2
                go_roundw
                case rel => exact ⟨k + 1, by omega, by go_num, by rw [hn.out], _, rfl⟩
                case measure => simp [intOf]; omega
              · rcases h3 : (((b[k]).toNat : Int) != 63) with _ | _
                · have hn := Lib.hid (disTo_no a b k hlt hltb (.inr (.inr h3)))
                  go_wp2
                  go_quiet (fail)
                  go_wp2
                  go_roundw
                  case rel => exact ⟨k + 1, by omega, by go_num, by rw [hn.out], _, rfl⟩
                  case measure => simp [intOf]; omega
                · have hn := Lib.hid (disTo_yes a b k hlt hltb h1 h2 h3)
                  go_wp2
                  go_quiet (fail)
                  go_wp2
                  go_roundw
                  case rel => exact ⟨k + 1, by omega, by go_num, by rw [hn.out]; go_num, _, rfl⟩
                  case measure => simp [intOf]; omega
          · go_wp2
            go_ret2
            exact ⟨ret_two (by rw [hNh.out, show k = a.size by omega]) hEh.out.symm, n, rfl⟩
      · have hl1 : (((a.size : Nat) : Int) != ((b.size : Nat) : Int)) = true := by simp; omega
        have hNh := Lib.hid (disN_arg (a := a.data.toList) (b := b.data.toList) hl)
        have hEh := Lib.hid (disE_arg ha hb hl)
        have hlh := Lib.hid hl
        clear hl
        go_enter Try.func19, Try.ntmps19
        go_wp2_with (go_at_call 18; refine (check_any _ _ (by assumption)).mono ?_; rintro e w' ⟨rfl, rfl⟩)
        go_ret2
        exact ⟨ret_two hNh.out.symm hEh.out.symm, 0, rfl⟩
    · have hNh := Lib.hid (disN_syn2 (a := a.data.toList) hb)
      have hEh := Lib.hid (disE_syn2 (a := a.data.toList) hb)
      go_enter Try.func19, Try.ntmps19
      go_wp2_with (go_at_call 18; refine (check_any _ _ (by assumption)).mono ?_; rintro e w' ⟨rfl, rfl⟩)
      go_ret2
      exact ⟨ret_two hNh.out.symm hEh.out.symm, 0, rfl⟩
  · have hNh := Lib.hid (disN_syn1 (b := b.data.toList) ha)
    have hEh := Lib.hid (disE_syn1 (b := b.data.toList) ha)
    go_enter Try.func19, Try.ntmps19
    go_wp2_with (go_at_call 18; refine (check_any _ _ (by assumption)).mono ?_; rintro e w' ⟨rfl, rfl⟩)
    go_ret2
    exact ⟨ret_two hNh.out.symm hEh.out.symm, 0, rfl⟩

end Go.Proofs.Ythncpflbojoejaa.C1
