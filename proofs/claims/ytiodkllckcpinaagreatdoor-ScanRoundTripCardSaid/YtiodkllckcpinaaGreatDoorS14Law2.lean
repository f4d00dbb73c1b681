/- The walk of the law ScanRoundTrip. -/
import Derived.Test.YtiodkllckcpinaaGreatDoorS14Awake
import Derived.Test.YtiodkllckcpinaaGreatDoorM14BE
set_option linter.unusedVariables false
set_option linter.unusedSimpArgs false
set_option maxRecDepth 100000
namespace Go.Proofs.YtiodkllckcpinaaGreatDoor
namespace S14
open Go.RowKit Mem F13

theorem round_row {w : World} {A : Option Addr} {fs : List Fr} (h : RdS w A ((sgs 0 fs).map fun s => ((0 : Nat), s))) (i : Nat) (hi : i < fs.length) : ∃ g, A = some ⟨g, 0, none⟩ ∧ g < w.heap.size ∧ At14 w g (i * 14) (0, ⟨0 + i * 852, fs[i], 0, 0, 0⟩) := by
 have hl : i < (sgs 0 fs).length := by rw [sgs_len]; exact hi
 obtain ⟨g, e, hg, ha⟩ := h i (by rw [List.length_map]; exact hl)
 rw [List.getElem_map, sgs_get fs 0 i hl hi] at ha
 exact ⟨g, e, hg, ha⟩
set_option maxHeartbeats 8000000 in
theorem walk_round (A : Option Addr) (n cap : Nat) (fs : List Fr) (w : World) (hfs : IsFrames w A n cap fs) : Calls Tryz.prog 6 #[.slice A n cap] w fun e w' => e = .returned (.bool true) ∧ Below w.heap.size w w' := by
 have cA := Lib.hid (fun W => awake_any W)
 obtain rfl := hfs.len
 by_cases h : 4 < fs.length
 ·have d1 : decide ((4 : Int) < (fs.length : Int)) = true := decide_eq_true (by omega)
  have d1' : decide (4 < fs.length) = true := decide_eq_true h
  clear h hfs
  go_enter Tryz.func6, Tryz.ntmps6
  go_wp2_with fail
  refine (cA.out _).mono ?_
  rintro e w1 ⟨rfl, hb1⟩
  go_wp2
  go_ret
  exact ⟨rfl, hb1⟩
 ·have d1 : decide ((4 : Int) < (fs.length : Int)) = false := decide_eq_false (by omega)
  have d1' : decide (4 < fs.length) = false := decide_eq_false h
  have cJ := join_own fs A cap w hfs (by omega)
  have n4 := Lib.hid (show fs.length ≤ 4 by omega)
  unfold JoP at cJ
  replace cJ := Lib.hid cJ
  replace hfs := Lib.hid hfs
  clear h
  go_enter Tryz.func6, Tryz.ntmps6
  go_wp2_with fail
  refine cJ.out.mono ?_
  rintro e w1 ⟨S, k, hJ, rfl, hb1⟩
  clear cJ
  by_cases hk : k = 0
  ·subst hk
   have hj0 := hJ.yes rfl
   have hS : S.size ≤ 1000000 := by
    have := hj0.len
    have e : S.data.toList.length = S.size := by simp
    have := n4.out
    omega
   have cP := fun W => piece_own S W hS
   unfold PcP at cP
   replace cP := Lib.hid cP
   have hjh := Lib.hid hj0
   clear hJ hS hj0
   go_wp2_with fail
   refine (cP.out _).mono ?_
   rintro e w2 ⟨l, v, hl, rfl, hr, hb2⟩
   have e := scan_join hjh.out hl
   subst e
   obtain ⟨As, caps, rfl, _, _, hR⟩ := rdS_of hr
   have hsl := sgs_len fs 0
   rw [List.length_map, hsl]
   have hfs2 := Lib.hid (hfs.out.below (chain hb1 hb2))
   have hB := Lib.hid (chain hb1 hb2)
   have dn : ((fs.length : Int) != (fs.length : Int)) = false := bne_self_eq_false _
   have hrw := Lib.hid (round_row hR)
   clear hl hr hb1 hb2 cP hfs hjh hsl hR
   go_wp2
   go_loopw [33] (fun iv wr => ∃ (i : Nat), iv = .int .i64 (i : Int) ∧ i ≤ fs.length ∧ Below w2.heap.size w2 wr) (fun iv _ => fs.length - (intOf iv).toNat)
   case atStart => exact ⟨0, rfl, Nat.zero_le _, Below.refl _ _⟩
   case round =>
    obtain ⟨i, rfl, hi, hb⟩ := hrel
    by_cases hlt : i < fs.length
    ·obtain ⟨g, rfl, hg, h14⟩ := hrw.out i hlt
     obtain ⟨b, o, rfl, hbs, h9⟩ := hfs2.out.get hlt
     obtain ⟨f, hf⟩ : ∃ f, fs[i] = f := ⟨_, rfl⟩
     rw [hf] at h14 h9
     obtain ⟨M, hM⟩ : ∃ M : Nat, M = 0 + i * 852 := ⟨_, rfl⟩
     rw [← hM] at h14
     have m1 : (i : Int) * 852 = (M : Int) := by omega
     have m2 : (M : Int) ≤ 3408 := by have := n4.out; omega
     obtain ⟨c0, c1, c2, c3, c4, c5, c6, c7, c8, c9, ca, cb, cc, cd⟩ := h14.below hb hg
     obtain ⟨kind, reel, sess, idx, len, data, spare, arch, pay⟩ := f
     have hb3 := hb.alloc hb.size (.cells #[.int .i64 0, .int .i64 (M : Int), .int .i64 kind, .int .i64 reel, .int .i64 sess, .int .i64 idx, .int .i64 len, .int .i64 data, .int .i64 spare, .int .u32 (arch.toNat : Int), .string pay, .int .i64 0, .int .i64 0, .int .i64 0] 48)
     obtain ⟨g0, g1, g2, g3, g4, g5, g6, g7, g8⟩ := h9.below hb3 hbs
     rw [show (((0, ⟨M, ⟨kind, reel, sess, idx, len, data, spare, arch, pay⟩, 0, 0, 0⟩) : Nat × Sg).1 : Int) = 0 from rfl] at c0
     dsimp only at c1 c2 c3 c4 c5 c6 c7 c8 c9 ca cb cc cd g0 g1 g2 g3 g4 g5 g6 g7 g8
     have di : decide ((i : Int) < (fs.length : Int)) = true := decide_eq_true (by omega)
     have di' : decide (i < fs.length) = true := decide_eq_true hlt
     have i0 : (0 : Int) ≤ (i : Int) := by omega
     have i1 : (i : Int) < (fs.length : Int) := by omega
     have ii : (i : Int) ≤ 4 := by have := n4.out; omega
     have hb3h := Lib.hid hb3
     clear h14 h9 hf hM hb hb3
     go_wp2
     go_quiet (fail)
     go_wp2
     go_roundw
     case rel => exact ⟨i + 1, by go_num, by omega, chainN hb3h.out _⟩
     case measure => simp [intOf]; omega
    ·obtain rfl : i = fs.length := by omega
     have di : decide ((fs.length : Int) < (fs.length : Int)) = false := decide_eq_false (by omega)
     have di' : decide (fs.length < fs.length) = false := decide_eq_false (by omega)
     have hB2 := Lib.hid (chain hB.out hb)
     clear hB hb hrw hfs2
     go_wp2_with fail
     refine (cA.out _).mono ?_
     rintro e w3 ⟨rfl, hb3⟩
     have hfin := Lib.hid (chain hB2.out hb3)
     clear hB2 hb3
     go_wp2
     go_ret
     exact ⟨rfl, hfin.out⟩
  ·have hS := hJ.no hk
   subst hS
   have dk : (k != 0) = true := bne_iff_ne.2 hk
   clear hJ hk
   go_wp2_with fail
   refine (cA.out _).mono ?_
   rintro e w2 ⟨rfl, hb2⟩
   have hfin := Lib.hid (chain hb1 hb2)
   clear hb1 hb2
   go_wp2
   go_ret
   exact ⟨rfl, hfin.out⟩
end S14
end Go.Proofs.YtiodkllckcpinaaGreatDoor
