/- The contract of layer 1's Invert. -/
import Derived.Test.YtpekdmplphpheaaRows
import Derived.Test.YtpekdmplphpheaaC1Math
import Derived.WalkKit
import Derived.BigQuiet
import Derived.Deep.QuietTactic
import Derived.WalkSpells
import Derived.WalkLawsBesides
import Derived.Lib.Hide
import Derived.Test.YtpekdmplphpheaaMem
namespace Go.Proofs.Ytpekdmplphpheaa.C1
open Go.RowKit Mem

theorem i48 (c : UInt8) (h : ((c.toNat : Int) == 48) = true) : c = 48 := by
  apply UInt8.toNat_inj.1
  have : ((c.toNat : Int)) = 48 := by simpa using h
  show c.toNat = 48
  omega
theorem i49 (c : UInt8) (h : ((c.toNat : Int) == 49) = true) : c = 49 := by
  apply UInt8.toNat_inj.1
  have : ((c.toNat : Int)) = 49 := by simpa using h
  show c.toNat = 49
  omega
theorem n48 (c : UInt8) (h : ((c.toNat : Int) == 48) = false) : c ≠ 48 := by
  rintro rfl
  simp at h
theorem n49 (c : UInt8) (h : ((c.toNat : Int) == 49) = false) : c ≠ 49 := by
  rintro rfl
  simp at h

set_option maxHeartbeats 400000 in
theorem invertCell_any (c : UInt8) (w : World) :
    Calls Try.prog 26 #[.int .u8 c.toNat] w fun e w' => e = .returned (.int .u8 (invC c).toNat) ∧ w = w' := by
  rcases h1 : ((c.toNat : Int) == 48) with _ | _
  · rcases h2 : ((c.toNat : Int) == 49) with _ | _
    · have hv := Lib.hid (show invC c = c by unfold invC; rw [if_neg (n48 c h1), if_neg (n49 c h2)])
      go_enter Try.func26, Try.ntmps26
      go_wp2
      go_ret
      exact ⟨ret_int (by rw [hv.out]), rfl⟩
    · obtain rfl := i49 c h2
      go_enter Try.func26, Try.ntmps26
      go_wp2
      go_ret
      exact ⟨rfl, rfl⟩
  · obtain rfl := i48 c h1
    go_enter Try.func26, Try.ntmps26
    go_wp2
    go_ret
    exact ⟨rfl, rfl⟩
theorem info_byte : (Try.prog.info? 5).map (fun i => (i.zero, i.size, i.bytes)) = some (some (.int .u8 0), 1, 1) := by kernel_rfl

theorem inv_snoc (s : ByteArray) (k : Nat) (h : k < s.size) : bys (inv (s.data.toList.take (k + 1))) = bys (inv (s.data.toList.take k)) ++ [.int .u8 ((invC s[k]).toNat : Int)] := by
  rw [take_snoc s k h]
  simp [inv, bys]

set_option maxHeartbeats 400000 in
theorem invert_any (s : ByteArray) (w : World) (hs : s.size ≤ 1000000) :
    Calls Try.prog 21 #[.string s] w fun e w' => e = .returned (.string ⟨(inv s.data.toList).toArray⟩) ∧ Below w.heap.size w w' := by
  obtain ⟨i0, hi, hz0, hz1, hz2⟩ := info_parts info_byte
  go_enter Try.func21, Try.ntmps21
  go_wp2_with (at_make; refine wpList_make_own _ rfl _ _ 30 rfl w.heap.size 5 i0 (.int .u8 0) 1 Try.underlying30 hi hz0 hz1 _ _ _ s.size rfl rfl (by omega) ?b2 ?b3 (Nat.le_refl _) ?_)
  case b2 => rw [hz2]; omega
  case b3 => unfold maxLen; omega
  intro w0 hown0 hgrow0
  go_wp2
  go_loopw [3, 10] (fun v i wr => ∃ k : Nat, k ≤ s.size ∧ i = .int .i64 k ∧ wr.ownsRow w.heap.size 5 1 v k (bys (inv (s.data.toList.take k))) ∧ Below w.heap.size w wr) (fun _ i _ => s.size - (intOf i).toNat)
  case atStart => exact ⟨0, Nat.zero_le _, rfl, hown0, (Below.refl _ _).grown hgrow0 (Nat.le_refl _) (fun k h => by cases h)⟩
  case round =>
    obtain ⟨k, hk, rfl, hown, hb⟩ := hrel
    by_cases hlt : k < s.size
    · go_wp2_with (first
        | (at_builtin; refine wpList_append_own _ rfl _ _ 30 rfl w.heap.size 5 i0 (.int .u8 0) 1 1 Try.underlying30 hi hz0 hz1 hz2 rfl (by decide) _ _ _ rfl (hown.alloc _) ⟨wr.heap.size, 0, none⟩ 1 1 [.int .u8 ((invC s[k]).toNat : Int)] rfl rfl (one_new _ _ _) (one_cell _ _) ?c3 ?c4 ?c5 ?_)
        | (go_at_call 26; refine (invertCell_any _ _).mono ?_; rintro e w' ⟨rfl, rfl⟩))
      case c3 => unfold maxLen; omega
      case c4 => omega
      case c5 => have := hb.size; simp; omega
      intro v' w1 hown' hgrow _
      rw [← inv_snoc s k hlt] at hown'
      have hb' : Below w.heap.size w w1 := (hb.alloc hb.size _).grown hgrow (by have := hb.size; simp; omega) (fun j hj => (hown.lt j hj).1)
      clear hown hb hgrow
      go_wp2
      go_roundw
      case rel => exact ⟨k + 1, by omega, by go_num, hown', hb'⟩
      case measure => simp [intOf]; omega
    · have hconv := conv_own (dst := 9) Try.underlying30 Try.underlying5 Try.underlying9 hown
      rw [show s.data.toList.take k = s.data.toList by rw [show k = s.size by omega, take_all]] at hconv
      go_wp2
      go_ret
      exact ⟨rfl, hb⟩
end Go.Proofs.Ytpekdmplphpheaa.C1
