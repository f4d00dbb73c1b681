/- The walks of the laws NetstringEncoding, NetstringInjective and NetstringConcatenation, under the package's contracts; the lists' total is bounded. -/
import Derived.Test.YtjmnjcjpcmonjaaDoorN2Law2
namespace Go.Proofs.YtjmnjcjpcmonjaaDoor.N2
open Go.RowKit Mem
set_option linter.unusedVariables false

theorem tot_bulk (l : List (List UInt8)) : tot l ≤ 11 * bulkS l := by
  induction l with
  | nil => exact Nat.zero_le _
  | cons x l ih => unfold tot bulkS at ih ⊢; simp; omega

set_option maxHeartbeats 2000000 in
theorem walk_encoding (D : Dev) (n : Int) (A : Option Addr) (len cap : Nat) (l : List (List UInt8)) (w : World) (hL0 : Laid w) (hn : (Lit.int .i64 n).wf = true) (hl : IsStrs w A len cap l) (hbl : bulkS l ≤ 1048576) :
    Calls Tryd.prog 3 #[.int .i64 n, .slice A len cap] w fun e w' => e = .returned (.bool true) ∧ Below w.heap.size w w' := by
  have hL := hL0
  obtain ⟨hn1, hn2⟩ : -9223372036854775808 ≤ n ∧ n ≤ 9223372036854775807 := (Lit.wf_int_iff .i64 _).1 hn
  obtain ⟨rfl, hle, hcap, hnil, hrd⟩ := hl
  have htot : tot l ≤ 12000000 := by have := tot_bulk l; omega
  have hT := Lib.hid (fun W (h : Rd W A (strVs l)) => rtotal_any A cap l W (by omega) hle hcap h)
  have hrdh := Lib.hid hrd
  have hnh := Lib.hid hnil
  have hlen := tot_len l
  clear hrd hnil
  by_cases h : tot l ≤ 1000
  · have hI : (tot l : Int) ≤ 1000 := by omega
    have hN := Lib.hid (fun W (hL : Laid W) => D.number n W hn1 hn2 hL)
    have hN2 := Lib.hid (fun W => rnumber_any n W hn1 hn2)
    have hSs := Lib.hid (fun W (h : Rd W A (strVs l)) (hL : Laid W) => D.strings A cap l W (by omega) hle hcap h hL)
    have hSs2 := Lib.hid (fun W (h : Rd W A (strVs l)) => rstrings_any A cap l W (by omega) hle hcap h)
    go_enter Tryd.func3, Tryd.ntmps3
    go_wp2_with fail
    refine (hT.out _ hrdh.out).mono ?_
    rintro e w1 ⟨rfl, rfl⟩
    go_wp2
    go_loopw [13] (fun i wr => ∃ k : Nat, k ≤ l.length ∧ i = .int .i64 k ∧ Below w.heap.size w wr) (fun i _ => l.length - (intOf i).toNat)
    case atStart => exact ⟨0, Nat.zero_le _, rfl, Below.refl _ _⟩
    case round =>
      obtain ⟨k, hk, rfl, hb⟩ := hrel
      have hL := hL0.below hb
      by_cases hlt : k < l.length
      · obtain ⟨b, o, rfl, hbl, hcell⟩ := (hrdh.out.below hb) k (by rw [strVs_len]; exact hlt)
        rw [strV_get l k hlt] at hcell
        obtain ⟨x, hx⟩ : ∃ x, l[k] = x := ⟨_, rfl⟩
        have hxl := tot_get l k hlt
        rw [hx] at hcell hxl
        have c1 := Lib.hid (fun W (hL : Laid W) => D.string ⟨x.toArray⟩ W (by rw [str_size]; omega) hL)
        have c2 := Lib.hid (fun W => rstring_any ⟨x.toArray⟩ W (by rw [str_size]; omega))
        have hI0 : (0 : Int) ≤ (k : Int) := by omega
        have hI1 : (k : Int) < (l.length : Int) := by omega
        clear hx
        go_wp2_with fail
        refine (c1.out _ (by first | exact hL | exact hL.drewN _)).mono ?_
        rintro e w1 ⟨rfl, hb1⟩
        have hL := Laid.below (by exact hL) hb1
        go_wp2_with fail
        refine (c2.out _).mono ?_
        rintro e w2 ⟨rfl, rfl⟩
        go_wp2
        go_roundw
        case rel => exact ⟨k + 1, by omega, by go_num, chain hb hb1⟩
        case measure => simp [intOf]; omega
      · have hrdk := Lib.hid (hrdh.out.below hb)
        go_wp2_with fail
        refine (hN.out _ (by first | exact hL | exact hL.drewN _)).mono ?_
        rintro e w1 ⟨rfl, hb1⟩
        have hL := Laid.below (by exact hL) hb1
        have hrd1 := Lib.hid (hrdk.out.below hb1)
        go_wp2_with fail
        refine (hN2.out _).mono ?_
        rintro e w2 ⟨rfl, rfl⟩
        go_wp2_with fail
        refine (hSs.out _ hrd1.out (by first | exact hL | exact hL.drewN _)).mono ?_
        rintro e w3 ⟨rfl, hb3⟩
        have hL := Laid.below (by exact hL) hb3
        have hrd3 := Lib.hid (hrd1.out.below hb3)
        go_wp2_with fail
        refine (hSs2.out _ hrd3.out).mono ?_
        rintro e w4 ⟨rfl, rfl⟩
        go_wp2_with fail
        refine (awake_any D _ (by first | exact hL | exact hL.drewN _)).mono ?_
        rintro e w5 ⟨rfl, hb5⟩
        have hL := Laid.below (by exact hL) hb5
        go_wp2
        go_ret
        exact ⟨rfl, chain (chain (chain hb hb1) hb3) hb5⟩
  · have hI : (1000 : Int) < (tot l : Int) := by omega
    go_enter Tryd.func3, Tryd.ntmps3
    go_wp2_with fail
    refine (hT.out _ hrdh.out).mono ?_
    rintro e w1 ⟨rfl, rfl⟩
    go_wp2_with fail
    refine (awake_any D _ (by first | exact hL | exact hL.drewN _)).mono ?_
    rintro e w5 ⟨rfl, hb5⟩
    have hL := Laid.below (by exact hL) hb5
    go_wp2
    go_ret
    exact ⟨rfl, hb5⟩

set_option maxHeartbeats 2000000 in
theorem walk_injective (D : Dev) (A : Option Addr) (la ca : Nat) (l : List (List UInt8)) (B : Option Addr) (lb cb : Nat) (m : List (List UInt8)) (w : World) (hL0 : Laid w) (hl : IsStrs w A la ca l) (hbl : bulkS l ≤ 1048576) (hm : IsStrs w B lb cb m) (hbm : bulkS m ≤ 1048576) :
    Calls Tryd.prog 8 #[.slice A la ca, .slice B lb cb] w fun e w' => e = .returned (.bool true) ∧ Below w.heap.size w w' := by
  have hL := hL0
  obtain ⟨rfl, hle, hcap, _, hrd⟩ := hl
  have htot : tot l ≤ 12000000 := by have := tot_bulk l; omega
  obtain ⟨rfl, hle2, hcap2, _, hrd2⟩ := hm
  have htot2 : tot m ≤ 12000000 := by have := tot_bulk m; omega
  have hT := Lib.hid (fun W (h : Rd W A (strVs l)) => rtotal_any A ca l W (by omega) hle hcap h)
  have hT2 := Lib.hid (fun W (h : Rd W B (strVs m)) => rtotal_any B cb m W (by omega) hle2 hcap2 h)
  have hrdh := Lib.hid hrd
  have hrdh2 := Lib.hid hrd2
  have hlen := tot_len l
  have hlen2 := tot_len m
  clear hrd hrd2
  by_cases h : tot l + tot m ≤ 1000
  · have hI : (tot l : Int) + (tot m : Int) ≤ 1000 := by omega
    have hSs := Lib.hid (fun W (h : Rd W A (strVs l)) (hL : Laid W) => D.strings A ca l W (by omega) hle hcap h hL)
    have hSs2 := Lib.hid (fun W (h : Rd W B (strVs m)) (hL : Laid W) => D.strings B cb m W (by omega) hle2 hcap2 h hL)
    have hsl := strsL_len l (by omega)
    have hR := fun W (hL : Laid W) => D.readStrings ⟨(strsL l).toArray⟩ W (by rw [str_size]; omega) hL
    unfold RlPost at hR
    rw [str_list, rdL_strs l (fun x hx => by have := tot_mem hx; unfold top; omega)] at hR
    have hR := Lib.hid hR
    obtain ⟨q, hq1, hq2⟩ : ∃ q : Bool, ((⟨(strsL l).toArray⟩ : ByteArray).toList == (⟨(strsL m).toArray⟩ : ByteArray).toList) = q ∧ decide (l = m) = q := by
      refine ⟨_, rfl, ?_⟩
      rw [str_inj, Bool.eq_iff_iff]
      simp only [decide_eq_true_eq]
      exact (strs_inj (by omega) (by omega)).symm
    obtain ⟨X, hX⟩ : ∃ X : ByteArray, ⟨(strsL l).toArray⟩ = X := ⟨_, rfl⟩
    obtain ⟨Y, hY⟩ : ∃ Y : ByteArray, ⟨(strsL m).toArray⟩ = Y := ⟨_, rfl⟩
    rw [hX] at hSs hR hq1
    rw [hY] at hSs2 hq1
    have hq2h := Lib.hid hq2
    clear hX hY hsl hq2
    go_enter Tryd.func8, Tryd.ntmps8
    go_wp2_with fail
    refine (hT.out _ hrdh.out).mono ?_
    rintro e w1 ⟨rfl, rfl⟩
    go_wp2_with fail
    refine (hT2.out _ hrdh2.out).mono ?_
    rintro e w1 ⟨rfl, rfl⟩
    go_wp2_with fail
    refine (hSs.out _ hrdh.out (by first | exact hL | exact hL.drewN _)).mono ?_
    rintro e w1 ⟨rfl, hb1⟩
    have hL := Laid.below (by exact hL) hb1
    have hrd1 := Lib.hid (hrdh.out.below hb1)
    have hrd12 := Lib.hid (hrdh2.out.below hb1)
    go_wp2_with fail
    refine (hR.out _ (by first | exact hL | exact hL.drewN _)).mono ?_
    rintro e w2 ⟨v, rfl, hv, hb2⟩
    have hL := Laid.below (by exact hL) hb2
    have hrd2 := Lib.hid (hrd1.out.below hb2)
    have hrd22 := Lib.hid (hrd12.out.below hb2)
    obtain ⟨C, cc, rfl, hcc, hccm⟩ := own_slice hv
    unfold maxLen at hccm
    have hS1 := rsame_any C A cc ca l l w2 (by omega) (by omega) hcc hccm hle hcap (Rd.of_own hv) hrd2.out
    rw [decide_eq_true (rfl : l = l)] at hS1
    have hS1 := Lib.hid hS1
    clear hv
    go_wp2_with fail
    refine hS1.out.mono ?_
    rintro e w3 ⟨rfl, n3, rfl⟩
    have hL := hL.drewN n3
    have hrd32 : Rd (w2.drewN n3) B (strVs m) := hrd22.out
    have hrd32h := Lib.hid hrd32
    have hrd3 : Rd (w2.drewN n3) A (strVs l) := hrd2.out
    have hrd3h := Lib.hid hrd3
    clear hrd3 hrd32
    go_wp2_with fail
    refine (hSs2.out _ hrd32h.out (by first | exact hL | exact hL.drewN _)).mono ?_
    rintro e w4 ⟨rfl, hb4⟩
    have hL := Laid.below (by exact hL) hb4
    have hrdA : Rd w4 A (strVs l) := hrd3h.out.below hb4
    have hrdB : Rd w4 B (strVs m) := hrd32h.out.below hb4
    have hS2 := rsame_any A B ca cb l m w4 (by omega) (by omega) hle hcap hle2 hcap2 hrdA hrdB
    rw [hq2h.out] at hS2
    have hS2 := Lib.hid hS2
    clear hrdA hrdB
    go_wp2_with fail
    refine hS2.out.mono ?_
    rintro e w5 ⟨rfl, n5, rfl⟩
    have hL := hL.drewN n5
    go_wp2_with fail
    refine (awake_any D _ (by first | exact hL | exact hL.drewN _)).mono ?_
    rintro e w6 ⟨rfl, hb6⟩
    have hL := Laid.below (by exact hL) hb6
    go_wp2
    go_ret
    exact ⟨rfl, chain (chainN (chain (chainN (chain hb1 hb2) n3) hb4) n5) hb6⟩
  · have hI : (1000 : Int) < (tot l : Int) + (tot m : Int) := by omega
    go_enter Tryd.func8, Tryd.ntmps8
    go_wp2_with fail
    refine (hT.out _ hrdh.out).mono ?_
    rintro e w1 ⟨rfl, rfl⟩
    go_wp2_with fail
    refine (hT2.out _ hrdh2.out).mono ?_
    rintro e w1 ⟨rfl, rfl⟩
    go_wp2_with fail
    refine (awake_any D _ (by first | exact hL | exact hL.drewN _)).mono ?_
    rintro e w5 ⟨rfl, hb5⟩
    have hL := Laid.below (by exact hL) hb5
    go_wp2
    go_ret
    exact ⟨rfl, hb5⟩
end Go.Proofs.YtjmnjcjpcmonjaaDoor.N2
