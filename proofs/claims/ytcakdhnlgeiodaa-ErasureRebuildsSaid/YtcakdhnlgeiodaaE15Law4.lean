/- The walk of the law ErasureRebuilds. -/
import Derived.Test.YtcakdhnlgeiodaaE15Awake
import Derived.Test.YtcakdhnlgeiodaaE15Own9
import Derived.Test.YtcakdhnlgeiodaaE15Some
import Derived.Test.YtcakdhnlgeiodaaE15Sel
namespace Go.Proofs.Ytcakdhnlgeiodaa.E15
set_option maxRecDepth 100000
open Go.RowKit Mem S14
open Go.Proofs.Ytcakdhnlgeiodaa.G5 Go.Proofs.Ytcakdhnlgeiodaa.G7
open Go.Proofs.Ytcakdhnlgeiodaa.G6 (IsSl rs rs_len rs_get rs_set rs_one rs_snoc make_zeros zeros_at own_zeros info_byte u8s conv_sl)
set_option linter.unusedVariables false
set_option linter.unusedSimpArgs false

set_option maxHeartbeats 8000000 in
theorem walk_rebuilds (A : Option Addr) (n c : Nat) (ls : List (List UInt8)) (k s x : Nat) (w : World) (h0 : IsStrs w A n c ls) (hk : k ≤ 255) (hs : s ≤ 65535) (hx : x ≤ 255) :
    Calls Try.prog 6 #[.slice A n c, .int .u8 (k : Int), .int .u16 (s : Int), .int .u8 (x : Int)] w fun e w' => e = .returned (.bool true) ∧ Below w.heap.size w w' := by
  obtain ⟨L, _, h⟩ := IsBs.of_strs h0
  have cS := stripe_any k hk h
  have cA := fun W => awake_any W
  replace cS := Lib.hid cS
  replace cA := Lib.hid cA
  clear h h0
  go_enter Try.func6, Try.ntmps6
  go_wp2_with fail
  refine (cS.out).mono ?_
  rintro e w1 ⟨E, m, M, A1, c1, v, hE, hM, rfl, hB1, hr1, hb1⟩
  obtain ⟨hl1, A2, c2, rfl, hR1⟩ := IsRaw.of_own hr1
  have hE8 := hE.hi
  have hE1 := hE.lo
  have cM := some_any s hs hR1 (by omega)
  obtain ⟨n1, hn1⟩ : ∃ n1, E.length = n1 := ⟨_, rfl⟩
  have hsel := fun ms (hm : ms.Sublist (shA (stD E m) (E.length + M))) => (⟨hE, hM, hm⟩ : Sel E m M ms)
  rw [hn1] at cM hE8 hE1 hsel hR1 ⊢
  have hn1 := Lib.hid hn1
  obtain ⟨NN, hNN⟩ : ∃ NN, n1 + M = NN := ⟨_, rfl⟩
  have hN15 : NN ≤ 15 := by omega
  have hN1 : 1 ≤ NN := by omega
  rw [hNN] at cM hR1 ⊢
  obtain ⟨X, hX⟩ : ∃ X, x % NN = X := ⟨_, rfl⟩
  have hXN : X < NN := by rw [← hX]; exact Nat.mod_lt _ (by omega)
  have m1 : (x : Int) % (NN : Int) = (X : Int) := by omega
  have m2 : (x : Int).tmod (NN : Int) = (X : Int) := by rw [Int.tmod_eq_emod_of_nonneg (by omega)]; exact m1
  have x0 : (0 : Int) ≤ (x : Int) := by omega
  have x255 : (x : Int) ≤ 255 := by omega
  have X0 : (0 : Int) ≤ (X : Int) := by omega
  have XN : (X : Int) < (NN : Int) := by omega
  have NN0 : ((NN : Int) == 0) = false := beq_eq_false_iff_ne.2 (by omega)
  obtain ⟨b, o, rfl, hbl, g0, g1⟩ := hR1.sh (k := X) (by rw [shA_len]; exact hXN)
  rw [getD_map' _ _ _ (by rw [shA_len]; exact hXN), shA_get _ hXN] at g0 g1
  dsimp only at g0 g1
  rw [pt_val (by omega)] at g0
  obtain ⟨S, hS⟩ : ∃ S, str (stD E m (pt X)) = S := ⟨_, rfl⟩
  rw [hS] at g1
  replace cM := Lib.hid cM
  replace hsel := Lib.hid hsel
  replace hb1 := Lib.hid hb1
  replace hS := Lib.hid hS
  replace hNN := Lib.hid hNN
  have hg := Lib.hid (fun W (hb : Below w1.heap.size w1 W) => And.intro ((hb.cell (p := ⟨b, o + X * 2, none⟩) hbl).trans g0) ((hb.cell (p := ⟨b, o + X * 2 + 1, none⟩) hbl).trans g1))
  clear hr1 hR1 hE hl1 cS hB1 g0 g1 hX
  go_wp2_with fail
  refine (cM.out).mono ?_
  rintro e w2 ⟨ms, v, hsub, rfl, hr2, hb2⟩
  obtain ⟨hl2, A3, c3, rfl, hR2⟩ := IsRaw.of_own hr2
  obtain ⟨g0, g1⟩ := hg.out w2 hb2
  have hS2 := hsel.out ms (by rw [hNN.out]; exact hsub)
  have hml := hS2.len
  have bA : Below w2.heap.size w2 (w2.alloc (.cells #[.int .i64 (X : Int), .string S] 32)) := (Below.refl _ _).alloc (Nat.le_refl _) _
  have cR := eblock_own (n1 : Int) (X : Int) (hR2.below bA) (by omega) hS2.small
  obtain ⟨hlost, hgot⟩ := hS2.rst
  have hb3 := Lib.hid (chain hb1.out (chain hb2 bA))
  obtain ⟨N2, hN2⟩ : ∃ N2, ms.length = N2 := ⟨_, rfl⟩
  obtain ⟨W1, hW1⟩ : ∃ W, w2.alloc (.cells #[.int .i64 (X : Int), .string S] 32) = W := ⟨_, rfl⟩
  have a0 : W1.cell? ⟨w2.heap.size, 0, none⟩ = some (.int .i64 (X : Int)) := by rw [← hW1, World.cell?_alloc_new]; rfl
  have a1 : W1.cell? ⟨w2.heap.size, 1, none⟩ = some (.string S) := by rw [← hW1, World.cell?_alloc_new]; rfl
  have hlt1 : w2.heap.size < W1.heap.size := by rw [← hW1]; simp
  rw [hW1] at cR hb3
  rw [hN2] at cR hml hlost hgot ⊢
  rw [hn1.out] at hlost hgot
  replace cR := Lib.hid cR
  replace hlost := Lib.hid hlost
  replace hgot := Lib.hid hgot
  have ha1 := Lib.hid (fun W (hb : Below W1.heap.size W1 W) => (hb.cell (p := ⟨w2.heap.size, 1, none⟩) hlt1).trans a1)
  clear hr2 hR2 hS2 hsub hl2 hb1 hb2 hsel cM hN2 hg bA hlt1
  go_wp2_with fail
  refine (cR.out).mono ?_
  rintro e w3 ⟨q, bl, hq, rfl, hb4⟩
  have hx14 : ¬ ((X : Int) < 0 ∨ 14 < (X : Int)) := by omega
  have hqe := hq.err
  rw [if_neg hx14] at hqe
  have a2 := ha1.out w3 hb4
  have hb5 := Lib.hid (chain hb3.out hb4)
  by_cases hlt : N2 < n1
  · have hq19 : q = 19 := by rw [hqe]; exact hlost.out hlt
    subst hq19
    have hbl := hq.no (by decide)
    subst hbl
    have t1 : decide ((N2 : Int) < (n1 : Int)) = true := decide_eq_true (by omega)
    have t2 : decide (N2 < n1) = true := decide_eq_true hlt
    have t3 : str ([] : List R) = ⟨#[]⟩ := rfl
    rw [t3]
    replace cA := Lib.hid (cA.out w3)
    clear hq hqe hb4 hb3 hlost hgot cR hx14 t3 ha1
    go_wp2_with fail
    refine (cA.out).mono ?_
    rintro e w4 ⟨rfl, hb6⟩
    have hfin := Lib.hid (chain hb5.out hb6)
    clear cA hb5 hb6
    go_wp2
    go_ret
    exact ⟨rfl, hfin.out⟩
  · obtain ⟨g1, g2⟩ := hgot.out (by omega)
    have hq0 : q = 0 := by rw [hqe]; exact g1
    subst hq0
    have hbS : str bl = S := by
      rw [hq.yes rfl, ← hS.out]
      show str (stO (fst_ (raws ms) n1) (pt X)) = _
      rw [g2]
    rw [hbS]
    have t1 : decide ((N2 : Int) < (n1 : Int)) = false := decide_eq_false (by omega)
    have t2 : decide (N2 < n1) = false := decide_eq_false hlt
    have t3 : (S.toList == S.toList) = true := by simp
    replace cA := Lib.hid (cA.out w3)
    clear hq hqe hb4 hb3 hlost hgot cR hx14 g1 g2 hbS ha1
    go_wp2_with fail
    refine (cA.out).mono ?_
    rintro e w4 ⟨rfl, hb6⟩
    have hfin := Lib.hid (chain hb5.out hb6)
    clear cA hb5 hb6
    go_wp2
    go_ret
    exact ⟨rfl, hfin.out⟩
end Go.Proofs.Ytcakdhnlgeiodaa.E15
