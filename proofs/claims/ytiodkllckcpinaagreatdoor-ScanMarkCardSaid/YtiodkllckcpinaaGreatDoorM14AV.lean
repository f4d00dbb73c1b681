/- The contract of the reference's FromBytes. -/
import Derived.Test.YtiodkllckcpinaaGreatDoorM14AC
set_option linter.unusedVariables false
set_option linter.unusedSimpArgs false
set_option maxRecDepth 100000
namespace Go.Proofs.YtiodkllckcpinaaGreatDoor
namespace C1
open Go.RowKit Mem

theorem info_byteR : (Tryz.prog.info? 5).map (fun i => (i.zero, i.size, i.bytes)) = some (some (.int .u8 0), 1, 1) := by kernel_rfl
set_option maxHeartbeats 1000000 in
theorem rfromBytes_any (s : ByteArray) (w : World) (hs : s.size ≤ 100000) :
  Calls Tryz.prog 51 #[.string s] w fun e w' => e = .returned (.string ⟨(fromB s.data.toList).toArray⟩) ∧ Below w.heap.size w w' := by
 obtain ⟨i0, hi, hz0, hz1, hz2⟩ := info_parts info_byteR
 go_enter Tryz.func51, Tryz.ntmps51
 go_wp2
 go_loopw [3, 4] (fun v i wr => ∃ k : Nat, k ≤ s.size ∧ i = .int .i64 k ∧ wr.ownsRow w.heap.size 5 1 v (8 * k) (bys (fromB (s.data.toList.take k))) ∧ Below w.heap.size w wr) (fun _ i _ => s.size - (intOf i).toNat)
 case atStart => exact ⟨0, Nat.zero_le _, rfl, World.ownsRow_made w #[] 0 (Nat.le_refl _) (by decide) rfl, (Below.refl _ _).alloc (Nat.le_refl _) _⟩
 case round =>
  obtain ⟨k, hk, rfl, hown, hb⟩ := hrel
  by_cases hlt : k < s.size
  ·go_wp2
   obtain ⟨wo, hwo⟩ : ∃ wo : World, wo = wr := ⟨_, rfl⟩
   subst hwo
   go_loopw [3, 5] (fun v i wr => ∃ j P : Nat, j ≤ 8 ∧ P ≤ 128 ∧ (j < 8 → 0 < P) ∧ Hid (P = 128 / 2 ^ j) ∧ i = .int .i64 P ∧ wr.ownsRow w.heap.size 5 1 v (8 * k + j) (bys (fromB (s.data.toList.take k) ++ (bits8 s[k]).take j)) ∧ Below w.heap.size w wr) (fun _ i _ => (intOf i).toNat)
   case atStart => exact ⟨0, 128, by omega, by omega, by omega, Lib.hid rfl, rfl, by simpa using hown, hb⟩
   case round =>
    obtain ⟨j, P, hj, hP, hP0, hPj, rfl, hown1, hb1⟩ := hrel
    clear hown hb
    by_cases hlt1 : j < 8
    ·have hP1 := hP0 hlt1
     have hl1 : (bys (fromB (s.data.toList.take k) ++ (bits8 s[k]).take j)) ++ [.int .u8 ((cellAt s[k] j).toNat : Int)] = bys (fromB (s.data.toList.take k) ++ (bits8 s[k]).take (j + 1)) := by
      rw [← bys_snoc, bits8_get _ _ hlt1, List.append_assoc]
     have hlh := Lib.hid hl1
     have hc : ((s[k]).toNat : Int) ≤ 255 := by have := (s[k]).toNat_lt; omega
     have hq0 : (0 : Int) ≤ ((s[k]).toNat : Int) / (P : Int) := Int.ediv_nonneg (by omega) (by omega)
     have hq1 : ((s[k]).toNat : Int) / (P : Int) ≤ 255 := by
      have h1 := (s[k]).toNat_lt
      have h2 : (s[k]).toNat / P ≤ (s[k]).toNat := Nat.div_le_self _ _
      have h3 : ((s[k]).toNat : Int) / (P : Int) = (((s[k]).toNat / P : Nat) : Int) := by simp
      omega
     have hv1 : 48 + ((s[k]).toNat : Int) / (P : Int) % 2 = ((cellAt s[k] j).toNat : Int) := by
      rw [cellAt_nat, ← cell_ref s[k] j P hPj.out hlt1]
      have h3 : ((s[k]).toNat : Int) / (P : Int) = (((s[k]).toNat / P : Nat) : Int) := by simp
      omega
     have hv2 : (48 + ((s[k]).toNat : Int) / (P : Int) % 2) % 256 = ((cellAt s[k] j).toNat : Int) := by omega
     have hnext : P / 2 = 128 / 2 ^ (j + 1) := by rw [hPj.out, Nat.pow_succ, Nat.div_div_eq_div_mul]
     have hnx := Lib.hid hnext
     have hpos' : j + 1 < 8 → 0 < P / 2 := by
      rw [hnext]
      intro h
      match j, h with
      | 0, _ => decide
      | 1, _ => decide
      | 2, _ => decide
      | 3, _ => decide
      | 4, _ => decide
      | 5, _ => decide
      | 6, _ => decide
     have hpp := Lib.hid hpos'
     clear hP0 hl1 hnext hpos'
     go_wp2_with (at_builtin; refine wpList_append_own _ rfl _ _ 53 rfl w.heap.size 5 i0 (.int .u8 0) 1 1 Tryz.underlying53 hi hz0 hz1 hz2 rfl (by decide) _ _ _ rfl (hown1.alloc _) ⟨wr.heap.size, 0, none⟩ 1 1 [.int .u8 ((cellAt s[k] j).toNat : Int)] rfl rfl (one_new _ _ _) (one_cell _ _) ?c3 ?c4 ?c5 ?_)
     case c3 => unfold maxLen; omega
     case c4 => omega
     case c5 => have := hb1.size; simp; omega
     intro v' w1 hown' hgrow _
     rw [hlh.out] at hown'
     have hb' : Below w.heap.size w w1 := (hb1.alloc hb1.size _).grown hgrow (by have := hb1.size; simp; omega) (fun j hj => (hown1.lt j hj).1)
     clear hown1 hb1 hgrow hv1 hv2 hlh hq0 hq1
     go_wp2
     go_roundw
     case rel => exact ⟨j + 1, P / 2, by omega, by omega, hpp.out, hnx, by go_num, hown', hb'⟩
     case measure => simp [intOf]; omega
    ·obtain rfl : j = 8 := by omega
     obtain rfl : P = 0 := hPj.out
     rw [show (bits8 s[k]).take 8 = bits8 s[k] from rfl, ← fromB_snoc s k hlt] at hown1
     clear hP0
     go_wp2
     go_roundw
     case rel => exact ⟨k + 1, by omega, by go_num, by rw [show 8 * (k + 1) = 8 * k + 8 by omega]; exact hown1, hb1⟩
     case measure => simp [intOf]; omega
  ·have hconv := conv_own (dst := 9) Tryz.underlying53 Tryz.underlying5 Tryz.underlying9 hown
   rw [show s.data.toList.take k = s.data.toList by rw [show k = s.size by omega, take_all]] at hconv
   go_wp2
   go_ret
   exact ⟨rfl, hb⟩
end C1
end Go.Proofs.YtiodkllckcpinaaGreatDoor
