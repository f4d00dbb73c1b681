/- The walk of the law ErasureRecovers. -/
import Derived.Test.YtcakdhnlgeiodaaE15Awake
import Derived.Test.YtcakdhnlgeiodaaE15Own9
import Derived.Test.YtcakdhnlgeiodaaE15Some
import Derived.Test.YtcakdhnlgeiodaaE15Sel
namespace Go.Proofs.Ytcakdhnlgeiodaa.E15
set_option maxRecDepth 100000
open Go.RowKit Mem S14
open Go.Proofs.Ytcakdhnlgeiodaa.G5 Go.Proofs.Ytcakdhnlgeiodaa.G7
open Go.Proofs.Ytcakdhnlgeiodaa.G6 (IsSl rs rs_len rs_get rs_set rs_one rs_snoc make_zeros zeros_at own_zeros info_byte u8s conv_sl)
set_option linter.unusedVariables false
set_option linter.unusedSimpArgs false

set_option maxHeartbeats 8000000 in
theorem walk_recovers (A : Option Addr) (n c : Nat) (ls : List (List UInt8)) (k s : Nat) (w : World) (h0 : IsStrs w A n c ls) (hk : k ≤ 255) (hs : s ≤ 65535) :
    Calls Try.prog 5 #[.slice A n c, .int .u8 (k : Int), .int .u16 (s : Int)] w fun e w' => e = .returned (.bool true) ∧ Below w.heap.size w w' := by
  obtain ⟨L, _, h⟩ := IsBs.of_strs h0
  have cS := stripe_any k hk h
  have cA := fun W => awake_any W
  replace cS := Lib.hid cS
  replace cA := Lib.hid cA
  clear h h0
  go_enter Try.func5, Try.ntmps5
  go_wp2_with fail
  refine (cS.out).mono ?_
  rintro e w1 ⟨E, m, M, A1, c1, v, hE, hM, rfl, hB1, hr1, hb1⟩
  obtain ⟨hl1, A2, c2, rfl, hR1⟩ := IsRaw.of_own hr1
  have hE8 := hE.hi
  have hE1 := hE.lo
  have cM := some_any s hs hR1 (by omega)
  obtain ⟨n1, hn1⟩ : ∃ n1, E.length = n1 := ⟨_, rfl⟩
  have hsel := fun ms (hm : ms.Sublist (shA (stD E m) (E.length + M))) => (⟨hE, hM, hm⟩ : Sel E m M ms)
  have hback := Lib.hid (even_back hE)
  rw [hn1] at cM hB1 hE8 hE1 hsel ⊢
  have hn1 := Lib.hid hn1
  replace cM := Lib.hid cM
  replace hsel := Lib.hid hsel
  replace hB1 := Lib.hid hB1
  replace hb1 := Lib.hid hb1
  clear hr1 hR1 hE hl1 cS
  go_wp2_with fail
  refine (cM.out).mono ?_
  rintro e w2 ⟨ms, v, hsub, rfl, hr2, hb2⟩
  obtain ⟨hl2, A3, c3, rfl, hR2⟩ := IsRaw.of_own hr2
  have hS := hsel.out ms hsub
  have hml := hS.len
  have cR := restore_own (n1 : Int) hR2 (by omega) hS.small
  obtain ⟨hlost, hgot⟩ := hS.rst
  have hB2 := Lib.hid (hB1.out.below hb2)
  have hb3 := Lib.hid (chain hb1.out hb2)
  obtain ⟨N2, hN2⟩ : ∃ N2, ms.length = N2 := ⟨_, rfl⟩
  rw [hN2] at cR hml hlost hgot ⊢
  replace cR := Lib.hid cR
  rw [hn1.out] at hlost hgot
  replace hlost := Lib.hid hlost
  replace hgot := Lib.hid hgot
  clear hr2 hR2 hS hsub hl2 hB1 hb1 hb2 hsel cM hN2
  go_wp2_with fail
  refine (cR.out).mono ?_
  rintro e w3 ⟨q, bl, A4, c4, hq, rfl, hB4, hb4⟩
  have hB3 := hB2.out.below hb4
  have hb5 := Lib.hid (chain hb3.out hb4)
  by_cases hlt : N2 < n1
  · have hq19 : q = 19 := by rw [hq.err]; exact hlost.out hlt
    subst hq19
    have hbl := hq.no (by decide)
    subst hbl
    have t1 : decide ((N2 : Int) < (n1 : Int)) = true := decide_eq_true (by omega)
    have t2 : decide (N2 < n1) = true := decide_eq_true hlt
    replace cA := Lib.hid (cA.out w3)
    clear hq hB3 hB4 hB2 hb4 hb3 hlost hgot cR hback
    go_wp2_with fail
    refine (cA.out).mono ?_
    rintro e w4 ⟨rfl, hb6⟩
    have hfin := Lib.hid (chain hb5.out hb6)
    clear cA hb5 hb6
    go_wp2
    go_ret
    exact ⟨rfl, hfin.out⟩
  · obtain ⟨g1, g2⟩ := hgot.out (by omega)
    have hq0 : q = 0 := by rw [hq.err]; exact g1
    subst hq0
    have hbl : bl = E := by
      rw [hq.yes rfl, ← hback.out, hn1.out]
      exact List.map_congr_left fun i _ => g2 _
    subst hbl
    have t1 : decide ((N2 : Int) < (n1 : Int)) = false := decide_eq_false (by omega)
    have t2 : decide (N2 < n1) = false := decide_eq_false hlt
    rw [hn1.out] at hB4 ⊢
    have cSm := same_any hB4 hB3 (by omega) (by omega)
    replace cSm := Lib.hid cSm
    clear hq hB3 hB4 hB2 hb4 hb3 hlost hgot cR hback g1 g2
    go_wp2_with fail
    refine (cSm.out).mono ?_
    rintro e w4 ⟨⟨q, rfl, hq⟩, nq, rfl⟩
    obtain rfl := hq.2 (by first | trivial | rfl)
    replace cA := Lib.hid (cA.out (w3.drewN nq))
    have hb8 := Lib.hid (chainB hb5.out nq)
    clear hq cSm hb5
    go_wp2_with fail
    refine (cA.out).mono ?_
    rintro e w6 ⟨rfl, hb9⟩
    have hfin := Lib.hid (hb8.out.trans (hb9.mono hb8.out.size))
    clear cA hb8 hb9
    go_wp2
    go_ret
    exact ⟨rfl, hfin.out⟩
end Go.Proofs.Ytcakdhnlgeiodaa.E15
