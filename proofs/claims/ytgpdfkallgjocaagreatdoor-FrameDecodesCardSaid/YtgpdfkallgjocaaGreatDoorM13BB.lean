/- Facts and contracts that the walks of this layer use, merged: C1RefTo, C1RefUnr. -/
import Derived.Test.YtgpdfkallgjocaaGreatDoorM13AG
import Derived.Test.YtgpdfkallgjocaaGreatDoorRows
import Derived.Test.YtgpdfkallgjocaaGreatDoorM13AA
import Derived.WalkKit
import Derived.BigQuiet
import Derived.Deep.QuietTactic
import Derived.WalkSpells
import Derived.WalkLawsBesides
import Derived.Lib.Hide
import Derived.Laws.BitsAllLaws
namespace Go.Proofs.YtgpdfkallgjocaaGreatDoor.C1
open Go.RowKit Mem

theorem info_byteU : (Tryz.prog.info? 5).map (fun i => (i.zero, i.size, i.bytes)) = some (some (.int .u8 0), 1, 1) := by kernel_rfl
theorem grp_take (s : ByteArray) (k j q : Nat) (hq : q = 8 * k + j) (hj : j < 8) (hlt : q < s.size) : (grp s.data.toList k).take (j + 1) = (grp s.data.toList k).take j ++ [s[q]] := by
  subst hq
  have hl : 8 * k + j < s.data.toList.length := by simpa using hlt
  unfold grp
  rw [List.take_take, List.take_take, show min (j + 1) 8 = j + 1 by omega, show min j 8 = j by omega]
  rw [List.take_succ_eq_append_getElem (by simp at hl ⊢; omega)]
  simp only [List.getElem_drop]
  rfl
theorem grp_full (l : List UInt8) (k : Nat) : (grp l k).take 8 = grp l k := List.take_of_length_le (List.length_take_le _ _)
theorem num_pre (l : List UInt8) (k j : Nat) (h : j ≤ 7) : num ((grp l k).take j) < 128 := by
  refine Nat.lt_of_lt_of_le (num_lt _) ?_
  have h1 : ((grp l k).take j).length ≤ 7 := Nat.le_trans (List.length_take_le _ _) h
  exact Nat.pow_le_pow_right (n := 2) (by decide) h1
theorem numq_yes {l : List UInt8} {c : UInt8} (h : ((c.toNat : Int) == 49) = true) : num (l ++ [c]) = num l * 2 + 1 := by rw [num_snoc, if_pos (i49 _ h)]
theorem numq_no {l : List UInt8} {c : UInt8} (h : ((c.toNat : Int) == 49) = false) : num (l ++ [c]) = num l * 2 := by rw [num_snoc, if_neg (n49 _ h)]; rfl
theorem unrq_yes {l : List UInt8} {c : UInt8} (h : ((c.toNat : Int) == 63) = true) : unr (l ++ [c]) = unr l + 1 := by
  unfold unr
  rw [List.filter_append]
  simp [is63, h]
theorem unrq_no {l : List UInt8} {c : UInt8} (h : ((c.toNat : Int) == 63) = false) : unr (l ++ [c]) = unr l := by
  unfold unr
  rw [List.filter_append]
  simp [is63, h]
set_option maxRecDepth 100000 in
set_option maxHeartbeats 2000000 in
theorem rtoBytes_any (s : ByteArray) (w : World) (hs : s.size ≤ 100000) :
    Calls Tryz.prog 56 #[.string s] w (TbPost s.data.toList w) := by
  rcases chk_cases s.data.toList with hc | hc
  · by_cases h8 : s.size % 8 = 0
    · have hE := Lib.hid (tbE_ok hc h8)
      obtain ⟨n, hn⟩ : ∃ n, s.size = 8 * n := ⟨s.size / 8, by omega⟩
      have hn8 : s.data.toList.length / 8 = n := by simp; omega
      have hn8h := Lib.hid hn8
      have hq : (((s.size : Nat) : Int) % 8 == 0) = true := by simp; omega
      have hq' := ne_of_eq hq
      have hnn : n ≤ 12500 := by omega
      have hnh := Lib.hid hn
      clear hn hn8 h8
      obtain ⟨i0, hi, hz0, hz1, hz2⟩ := info_parts info_byteU
      obtain ⟨j0, hj, hy0, hy1, hy2⟩ := info_parts info_int
      go_enter Tryz.func56, Tryz.ntmps56
      go_wp2_with (go_at_call 51; refine (rcheck_any _ _ (by omega)).mono ?_; rintro e w' ⟨rfl, rfl⟩)
      clear hc hq hq'
      go_loopw [5, 6, 7] (fun b v i wr => ∃ k p : Nat, k ≤ n ∧ Hid (p = 8 * k) ∧ p ≤ s.size ∧ i = .int .i64 p ∧ wr.ownsRow w.heap.size 5 1 b k (bys (toB s.data.toList k)) ∧
        wr.ownsRow w.heap.size 3 1 v (bad s.data.toList k).length (nats (bad s.data.toList k)) ∧ Below w.heap.size w wr) (fun _ _ i _ => s.size - (intOf i).toNat)
      case atStart => exact ⟨0, 0, Nat.zero_le _, Lib.hid rfl, Nat.zero_le _, rfl, (empty_at rfl (Nat.le_refl _)).alloc _, empty_at (by simp) (Nat.le_succ _), ((Below.refl _ _).alloc (Nat.le_refl _) _).alloc (by simp) _⟩
      case round =>
        obtain ⟨k, p, hk, hp, hps, rfl, hob, hov, hb⟩ := hrel
        by_cases hlt : p < s.size
        · have hkn : k < n := by have := hp.out; have := hnh.out; omega
          have hp8 : p + 8 ≤ s.size := by have := hp.out; have := hnh.out; omega
          go_wp2
          go_loop [8, 9, 10] (fun a o q => ∃ (j t : Nat) (u : Bool), j ≤ 8 ∧ t ≤ p + 8 ∧ p ≤ t ∧ Hid (t = p + j) ∧ q = .int .i64 t ∧ o = .bool u ∧ Hid (u = decide (0 < unr ((grp s.data.toList k).take j))) ∧ a = .int .i64 (num ((grp s.data.toList k).take j))) (fun _ _ q => p + 8 - (intOf q).toNat)
          case atStart => exact ⟨0, p, false, by omega, by omega, by omega, Lib.hid rfl, rfl, rfl, Lib.hid rfl, rfl⟩
          case round =>
            obtain ⟨j, t, u, hj8, ht8, hpt, htj, rfl, rfl, hu, rfl⟩ := hrel
            by_cases htl : t < p + 8
            · have hj7 : j < 8 := by have := htj.out; omega
              have hts : t < s.size := by omega
              have hpre := num_pre s.data.toList k j (by omega)
              have htk := Lib.hid (grp_take s k j t (by have := htj.out; have := hp.out; omega) hj7 hts)
              have htn := Lib.hid (show t + 1 = p + (j + 1) by have := htj.out; omega)
              rcases h1 : (((s[t]).toNat : Int) == 49) with _ | _
              · have hnum := Lib.hid (show num ((grp s.data.toList k).take (j + 1)) = num ((grp s.data.toList k).take j) * 2 by rw [htk.out, numq_no h1])
                rcases u with _ | _
                · rcases h2 : (((s[t]).toNat : Int) == 63) with _ | _
                  · have hu' : Hid (false = decide (0 < unr ((grp s.data.toList k).take (j + 1)))) := Lib.hid (by rw [htk.out, unrq_no h2]; exact hu.out)
                    go_wp2
                    go_round
                    case rel => exact ⟨j + 1, t + 1, _, by omega, by omega, by omega, htn, by go_num, rfl, hu', by rw [hnum.out]; go_num⟩
                    case measure => simp [intOf]; omega
                  · have hu' : Hid (true = decide (0 < unr ((grp s.data.toList k).take (j + 1)))) := Lib.hid (by rw [htk.out, unrq_yes h2]; simp)
                    go_wp2
                    go_round
                    case rel => exact ⟨j + 1, t + 1, _, by omega, by omega, by omega, htn, by go_num, rfl, hu', by rw [hnum.out]; go_num⟩
                    case measure => simp [intOf]; omega
                · have hu' : Hid (true = decide (0 < unr ((grp s.data.toList k).take (j + 1)))) := Lib.hid (by
                    have h0 := hu.out
                    rw [htk.out]
                    rcases h2 : (((s[t]).toNat : Int) == 63) with _ | _
                    · rw [unrq_no h2]; exact h0
                    · rw [unrq_yes h2]; simp)
                  go_wp2
                  go_round
                  case rel => exact ⟨j + 1, t + 1, _, by omega, by omega, by omega, htn, by go_num, rfl, hu', by rw [hnum.out]; go_num⟩
                  case measure => simp [intOf]; omega
              · have hnum := Lib.hid (show num ((grp s.data.toList k).take (j + 1)) = num ((grp s.data.toList k).take j) * 2 + 1 by rw [htk.out, numq_yes h1])
                rcases u with _ | _
                · rcases h2 : (((s[t]).toNat : Int) == 63) with _ | _
                  · have hu' : Hid (false = decide (0 < unr ((grp s.data.toList k).take (j + 1)))) := Lib.hid (by rw [htk.out, unrq_no h2]; exact hu.out)
                    go_wp2
                    go_round
                    case rel => exact ⟨j + 1, t + 1, _, by omega, by omega, by omega, htn, by go_num, rfl, hu', by rw [hnum.out]; go_num⟩
                    case measure => simp [intOf]; omega
                  · have hu' : Hid (true = decide (0 < unr ((grp s.data.toList k).take (j + 1)))) := Lib.hid (by rw [htk.out, unrq_yes h2]; simp)
                    go_wp2
                    go_round
                    case rel => exact ⟨j + 1, t + 1, _, by omega, by omega, by omega, htn, by go_num, rfl, hu', by rw [hnum.out]; go_num⟩
                    case measure => simp [intOf]; omega
                · have hu' : Hid (true = decide (0 < unr ((grp s.data.toList k).take (j + 1)))) := Lib.hid (by
                    have h0 := hu.out
                    rw [htk.out]
                    rcases h2 : (((s[t]).toNat : Int) == 63) with _ | _
                    · rw [unrq_no h2]; exact h0
                    · rw [unrq_yes h2]; simp)
                  go_wp2
                  go_round
                  case rel => exact ⟨j + 1, t + 1, _, by omega, by omega, by omega, htn, by go_num, rfl, hu', by rw [hnum.out]; go_num⟩
                  case measure => simp [intOf]; omega
            · have hj8' : j = 8 := by have := htj.out; omega
              subst hj8'
              have hu := hu.out
              rw [grp_full] at hu
              rw [grp_full]
              have hnum := grp_num s.data.toList k
              have hdiv : ((p : Nat) : Int) / 8 = (k : Int) := by have := hp.out; omega
              have htc := Lib.hid (toB_cells s.data.toList k)
              have hbl := bad_le s.data.toList k
              have hpn := Lib.hid (show p + 8 = 8 * (k + 1) by have := hp.out; omega)
              by_cases hu0 : 0 < unr (grp s.data.toList k)
              · obtain rfl : u = true := by rw [hu]; simpa using hu0
                have hbc := Lib.hid (bad_cells s.data.toList k hu0)
                have hbn := Lib.hid (bad_yes_len s.data.toList k hu0)
                clear hu hu0
                go_wp2_with (at_builtin; refine wpList_append_own _ rfl _ _ 61 rfl w.heap.size 3 j0 (.int .i64 0) 1 8 Tryz.underlying61 hj hy0 hy1 hy2 rfl (by decide) _ _ _ rfl (hov.alloc _) ⟨wr.heap.size, 0, none⟩ 1 1 [.int .i64 (k : Int)] rfl rfl (one_new _ _ _) (one_cell _ _) ?d3 ?d4 ?d5 ?_)
                case d3 => unfold maxLen; omega
                case d4 => omega
                case d5 => have := hb.size; simp; omega
                intro v' w1 hov1 hgrow1 _
                rw [hbc.out] at hov1
                have hob1 := (hob.alloc _).kept hgrow1 (own_apart hob hov (by decide))
                have hb1 : Below w.heap.size w w1 := (hb.alloc hb.size _).grown hgrow1 (by have := hb.size; simp; omega) (fun j hj => (hov.lt j hj).1)
                clear hob hov hb hgrow1 hbc
                go_wp2_with (at_builtin; refine wpList_append_own _ rfl _ _ 37 rfl w.heap.size 5 i0 (.int .u8 0) 1 1 Tryz.underlying37 hi hz0 hz1 hz2 rfl (by decide) _ _ _ rfl (hob1.alloc _) ⟨w1.heap.size, 0, none⟩ 1 1 [.int .u8 (num (grp s.data.toList k) : Int)] rfl rfl (one_new _ _ _) (one_cell _ _) ?c3 ?c4 ?c5 ?_)
                case c3 => unfold maxLen; omega
                case c4 => omega
                case c5 => have := hb1.size; simp; omega
                intro b' w2 hob2 hgrow2 _
                rw [htc.out] at hob2
                have hov2 := (hov1.alloc _).kept hgrow2 (own_apart hov1 hob1 (by decide))
                have hb2 : Below w.heap.size w w2 := (hb1.alloc hb1.size _).grown hgrow2 (by have := hb1.size; simp; omega) (fun j hj => (hob1.lt j hj).1)
                clear hob1 hov1 hb1 hgrow2 htc
                go_wp2
                go_roundw
                case rel => exact ⟨k + 1, p + 8, by omega, hpn, by omega, by go_num, hob2, by rw [hbn.out]; exact hov2, hb2⟩
                case measure => simp [intOf]; omega
              · obtain rfl : u = false := by rw [hu]; simpa using hu0
                have hbn := Lib.hid (bad_no s.data.toList k hu0)
                clear hu hu0
                go_wp2_with (at_builtin; refine wpList_append_own _ rfl _ _ 37 rfl w.heap.size 5 i0 (.int .u8 0) 1 1 Tryz.underlying37 hi hz0 hz1 hz2 rfl (by decide) _ _ _ rfl (hob.alloc _) ⟨wr.heap.size, 0, none⟩ 1 1 [.int .u8 (num (grp s.data.toList k) : Int)] rfl rfl (one_new _ _ _) (one_cell _ _) ?c3 ?c4 ?c5 ?_)
                case c3 => unfold maxLen; omega
                case c4 => omega
                case c5 => have := hb.size; simp; omega
                intro b' w2 hob2 hgrow2 _
                rw [htc.out] at hob2
                have hov2 := (hov.alloc _).kept hgrow2 (own_apart hov hob (by decide))
                have hb2 : Below w.heap.size w w2 := (hb.alloc hb.size _).grown hgrow2 (by have := hb.size; simp; omega) (fun j hj => (hob.lt j hj).1)
                clear hob hov hb hgrow2 htc
                go_wp2
                go_roundw
                case rel => exact ⟨k + 1, p + 8, by omega, hpn, by omega, by go_num, hob2, by rw [hbn.out]; exact hov2, hb2⟩
                case measure => simp [intOf]; omega
        · have hkn : k = n := by have := hp.out; have := hnh.out; omega
          subst hkn
          have hconv := conv_own (dst := 9) Tryz.underlying37 Tryz.underlying5 Tryz.underlying9 hob
          go_wp2
          go_ret3
          exact tbPost_ok hE.out hn8h.out hov hb
    · have hE := Lib.hid (tbE_short hc h8)
      have hq : (((s.size : Nat) : Int) % 8 == 0) = false := by simp; omega
      have hq' := ne_of_no hq
      go_enter Tryz.func56, Tryz.ntmps56
      go_wp2_with (go_at_call 51; refine (rcheck_any _ _ (by omega)).mono ?_; rintro e w' ⟨rfl, rfl⟩)
      go_ret3
      exact tbPost_no hE.out (by decide)
  · have hE := Lib.hid (tbE_syn hc)
    go_enter Tryz.func56, Tryz.ntmps56
    go_wp2_with (go_at_call 51; refine (rcheck_any _ _ (by omega)).mono ?_; rintro e w' ⟨rfl, rfl⟩)
    go_ret3
    exact tbPost_no hE.out (by decide)
end Go.Proofs.YtgpdfkallgjocaaGreatDoor.C1
namespace Go.Proofs.YtgpdfkallgjocaaGreatDoor.C1
open Go.RowKit Mem

set_option maxHeartbeats 400000 in
theorem runreadable_any (s : ByteArray) (w : World) (hs : s.size ≤ 1000000) :
    Calls Tryz.prog 53 #[.string s] w fun e w' => e = .returned (.int .i64 (unr s.data.toList)) ∧ w = w' := by
  go_enter Tryz.func53, Tryz.ntmps53
  go_wp2
  go_loop [3, 4] (fun n i => ∃ k : Nat, k ≤ s.size ∧ i = .int .i64 k ∧ n = .int .i64 (unr (s.data.toList.take k))) (fun _ i => s.size - (intOf i).toNat)
  case atStart => exact ⟨0, Nat.zero_le _, rfl, rfl⟩
  case round =>
    obtain ⟨k, hk, rfl, rfl⟩ := hrel
    have hu := unr_le (s.data.toList.take k)
    have hl : (s.data.toList.take k).length ≤ k := List.length_take_le _ _
    by_cases hlt : k < s.size
    · go_wp2
      all_goals
        go_round
        case rel => exact ⟨k + 1, by omega, by go_num, by first | (rw [unr_snoc_yes s k hlt (by assumption)]; go_num) | rw [unr_snoc_no s k hlt (by assumption)]⟩
        case measure => simp [intOf]; omega
    · go_wp2
      go_ret
      exact ⟨ret_int (by rw [show k = s.size by omega, take_all]), rfl⟩
end Go.Proofs.YtgpdfkallgjocaaGreatDoor.C1
