/- The walk of the law NetstringConcatenation, under the package's contracts; the lists' total is bounded. -/
import Derived.Test.YtjmnjcjpcmonjaaDoorN2Law3
namespace Go.Proofs.YtjmnjcjpcmonjaaDoor.N2
open Go.RowKit Mem
set_option linter.unusedVariables false

theorem tot_append (l m : List (List UInt8)) : tot (l ++ m) = tot l + tot m := by simp [tot]

set_option maxHeartbeats 2000000 in
theorem walk_concatenation (D : Dev) (A : Option Addr) (la ca : Nat) (l : List (List UInt8)) (B : Option Addr) (lb cb : Nat) (m : List (List UInt8)) (w : World) (hL0 : Laid w) (hl : IsStrs w A la ca l) (hbl : bulkS l ≤ 1048576) (hm : IsStrs w B lb cb m) (hbm : bulkS m ≤ 1048576) :
    Calls Tryd.prog 10 #[.slice A la ca, .slice B lb cb] w fun e w' => e = .returned (.bool true) ∧ Below w.heap.size w w' := by
  have hL := hL0
  obtain ⟨rfl, hle, hcap, hnA, hrd⟩ := hl
  have htot : tot l ≤ 12000000 := by have := tot_bulk l; omega
  obtain ⟨rfl, hle2, hcap2, hnB, hrd2⟩ := hm
  have htot2 : tot m ≤ 12000000 := by have := tot_bulk m; omega
  have hT := Lib.hid (fun W (h : Rd W A (strVs l)) => rtotal_any A ca l W (by omega) hle hcap h)
  have hT2 := Lib.hid (fun W (h : Rd W B (strVs m)) => rtotal_any B cb m W (by omega) hle2 hcap2 h)
  have hrdh := Lib.hid hrd
  have hrdh2 := Lib.hid hrd2
  have hnAh := Lib.hid hnA
  have hnBh := Lib.hid hnB
  have hlen := tot_len l
  have hlen2 := tot_len m
  clear hrd hrd2 hnA hnB
  by_cases h : tot l + tot m ≤ 1000
  · have hI : (tot l : Int) + (tot m : Int) ≤ 1000 := by omega
    have hSs := Lib.hid (fun W (h : Rd W A (strVs l)) (hL : Laid W) => D.strings A ca l W (by omega) hle hcap h hL)
    have hSs2 := Lib.hid (fun W (h : Rd W B (strVs m)) (hL : Laid W) => D.strings B cb m W (by omega) hle2 hcap2 h hL)
    have hsl := strsL_len l (by omega)
    have hsm := strsL_len m (by omega)
    obtain ⟨L, hL⟩ : ∃ L, l ++ m = L := ⟨_, rfl⟩
    have hLt : tot L ≤ 1000 := by rw [← hL, tot_append]; omega
    have hLn : L.length ≤ 1000 := Nat.le_trans (tot_len L) hLt
    have hLs : strsL L = strsL l ++ strsL m := by rw [← hL, strsL_append]
    have hR := fun W (hL : Laid W) => D.readStrings (⟨(strsL l).toArray⟩ ++ ⟨(strsL m).toArray⟩) W (by rw [str_app, str_size, List.length_append]; omega) hL
    unfold RlPost at hR
    rw [str_app, str_list, ← hLs, rdL_strs L (fun x hx => by have := tot_mem hx; unfold top; omega), hLs, ← str_app] at hR
    have hR := Lib.hid hR
    have hl1 : (strsL l).length ≤ 1000 := by omega
    have hl2 : (strsL m).length ≤ 1000 := by omega
    obtain ⟨i0, hi, hz0, hz1, hz2⟩ := info_parts info_str
    have hLh := Lib.hid hL
    have hLsh := Lib.hid hLs
    clear hsl hsm hL hLs
    go_enter Tryd.func10, Tryd.ntmps10
    go_wp2_with fail
    refine (hT.out _ hrdh.out).mono ?_
    rintro e w1 ⟨rfl, rfl⟩
    go_wp2_with fail
    refine (hT2.out _ hrdh2.out).mono ?_
    rintro e w1 ⟨rfl, rfl⟩
    have hE0 : (w.alloc (.cells #[] 9)).ownsRow w.heap.size 9 1 (.slice (some ⟨w.heap.size, 0, none⟩) 0 0) 0 [] := empty_at rfl (Nat.le_refl _)
    have hb0 : Below w.heap.size w (w.alloc (.cells #[] 9)) := (Below.refl _ _).alloc (Nat.le_refl _) _
    have hrdA0 := Lib.hid (hrdh.out.below hb0)
    have hrdB0 := Lib.hid (hrdh2.out.below hb0)
    go_wp2_with (at_builtin; refine wpList_append_rd rfl (.tmp 16) (.tmp 17) 22 rfl w.heap.size 9 i0 (.string ByteArray.empty) 16 Tryd.underlying22 hi hz0 hz1 hz2 rfl _ _ _ rfl hE0 A l.length ca (strVs l) rfl hrdA0.out (strVs_len l) hnAh.out (strVs_one l) ?c3 ?c4 ?c5 ?_)
    case c3 => unfold maxLen; omega
    case c4 => omega
    case c5 => simp
    intro v1 w1 hown1 hgrow1
    have hb1 : Below w.heap.size w w1 := hb0.grown hgrow1 hb0.size (fun j hj => (hE0.lt j hj).1)
    have hrdB1 := Lib.hid (hrdh2.out.below hb1)
    clear hE0 hb0 hgrow1
    go_wp2_with (at_builtin; refine wpList_append_rd rfl (.tmp 18) (.tmp 19) 22 rfl w.heap.size 9 i0 (.string ByteArray.empty) 16 Tryd.underlying22 hi hz0 hz1 hz2 rfl _ _ _ rfl hown1 B m.length cb (strVs m) rfl hrdB1.out (strVs_len m) hnBh.out (strVs_one m) ?d3 ?d4 ?d5 ?_)
    case d3 => unfold maxLen; omega
    case d4 => omega
    case d5 => exact hb1.size
    intro v2 w2 hown2 hgrow2
    have hb2 : Below w.heap.size w w2 := hb1.grown hgrow2 hb1.size (fun j hj => (hown1.lt j hj).1)
    rw [← strVs_append, ← List.length_append, hLh.out] at hown2
    obtain ⟨C, cc, rfl, hcc, hccm⟩ := own_slice hown2
    unfold maxLen at hccm
    have hrdC := Rd.of_own hown2
    have hL := hL0.below hb2
    have hboth := D.strings C cc L w2 (by omega) hcc hccm hrdC (by first | exact hL | exact hL.drewN _)
    rw [hLsh.out, ← str_app] at hboth
    have hboth := Lib.hid hboth
    have hrdCh := Lib.hid hrdC
    have hrdA2 := Lib.hid (hrdh.out.below hb2)
    have hrdB2 := Lib.hid (hrdh2.out.below hb2)
    clear hown1 hown2 hb1 hgrow2 hrdC
    go_wp2_with fail
    refine hboth.out.mono ?_
    rintro e w3 ⟨rfl, hb3⟩
    have hL := Laid.below (by exact hL) hb3
    have hrdC3 := Lib.hid (hrdCh.out.below hb3)
    have hrdA3 := Lib.hid (hrdA2.out.below hb3)
    have hrdB3 := Lib.hid (hrdB2.out.below hb3)
    go_wp2_with fail
    refine (hSs.out _ hrdA3.out (by first | exact hL | exact hL.drewN _)).mono ?_
    rintro e w4 ⟨rfl, hb4⟩
    have hL := Laid.below (by exact hL) hb4
    have hrdC4 := Lib.hid (hrdC3.out.below hb4)
    have hrdA4 := Lib.hid (hrdA3.out.below hb4)
    have hrdB4 := Lib.hid (hrdB3.out.below hb4)
    go_wp2_with fail
    refine (hSs2.out _ hrdB4.out (by first | exact hL | exact hL.drewN _)).mono ?_
    rintro e w5 ⟨rfl, hb5⟩
    have hL := Laid.below (by exact hL) hb5
    have hrdC5 := Lib.hid (hrdC4.out.below hb5)
    have hrdA5 := Lib.hid (hrdA4.out.below hb5)
    have hrdB5 := Lib.hid (hrdB4.out.below hb5)
    go_wp2_with fail
    refine (hR.out _ (by first | exact hL | exact hL.drewN _)).mono ?_
    rintro e w6 ⟨v, rfl, hv, hb6⟩
    have hL := Laid.below (by exact hL) hb6
    have hrdC6 := Lib.hid (hrdC5.out.below hb6)
    have hrdA6 := Lib.hid (hrdA5.out.below hb6)
    have hrdB6 := Lib.hid (hrdB5.out.below hb6)
    obtain ⟨E, ce, rfl, hce, hcem⟩ := own_slice hv
    unfold maxLen at hcem
    have hrdE := Lib.hid (Rd.of_own hv)
    clear hv
    go_wp2_with fail
    refine (hSs.out _ hrdA6.out (by first | exact hL | exact hL.drewN _)).mono ?_
    rintro e w7 ⟨rfl, hb7⟩
    have hL := Laid.below (by exact hL) hb7
    have hrdC7 := Lib.hid (hrdC6.out.below hb7)
    have hrdE7 := Lib.hid (hrdE.out.below hb7)
    have hrdB7 := Lib.hid (hrdB6.out.below hb7)
    go_wp2_with fail
    refine (hSs2.out _ hrdB7.out (by first | exact hL | exact hL.drewN _)).mono ?_
    rintro e w8 ⟨rfl, hb8⟩
    have hL := Laid.below (by exact hL) hb8
    have hS1 := rsame_any E C ce cc L L w8 (by omega) (by omega) hce hcem hcc hccm (hrdE7.out.below hb8) (hrdC7.out.below hb8)
    rw [decide_eq_true (rfl : L = L)] at hS1
    have hS1 := Lib.hid hS1
    go_wp2_with fail
    refine hS1.out.mono ?_
    rintro e w9 ⟨rfl, n9, rfl⟩
    have hL := hL.drewN n9
    go_wp2_with fail
    refine (awake_any D _ (by first | exact hL | exact hL.drewN _)).mono ?_
    rintro e w10 ⟨rfl, hb10⟩
    have hL := Laid.below (by exact hL) hb10
    go_wp2
    go_ret
    exact ⟨rfl, chain (chainN (chain (chain (chain (chain (chain (chain hb2 hb3) hb4) hb5) hb6) hb7) hb8) n9) hb10⟩
  · have hI : (1000 : Int) < (tot l : Int) + (tot m : Int) := by omega
    go_enter Tryd.func10, Tryd.ntmps10
    go_wp2_with fail
    refine (hT.out _ hrdh.out).mono ?_
    rintro e w1 ⟨rfl, rfl⟩
    go_wp2_with fail
    refine (hT2.out _ hrdh2.out).mono ?_
    rintro e w1 ⟨rfl, rfl⟩
    go_wp2_with fail
    refine (awake_any D _ (by first | exact hL | exact hL.drewN _)).mono ?_
    rintro e w5 ⟨rfl, hb5⟩
    have hL := Laid.below (by exact hL) hb5
    go_wp2
    go_ret
    exact ⟨rfl, hb5⟩
end Go.Proofs.YtjmnjcjpcmonjaaDoor.N2
