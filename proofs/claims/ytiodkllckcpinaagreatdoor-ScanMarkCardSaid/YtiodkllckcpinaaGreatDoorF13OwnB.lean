/- The contract of the landed Decode of layer 13. -/
import Derived.Test.YtiodkllckcpinaaGreatDoorM14AS
set_option linter.unusedVariables false
set_option linter.unusedSimpArgs false
set_option maxRecDepth 100000
namespace Go.Proofs.YtiodkllckcpinaaGreatDoor
namespace F13
open Go.RowKit Mem

set_option maxHeartbeats 16000000 in
theorem decode_own (c : ByteArray) (w : World) (hc : c.size ≤ 1000000) : Calls Tryz.prog 24 #[.string c] w (DcP c w) := by
 have cD := fun W => message_own c W hc
 have hgoal : ∀ (F : Fr) (d u n k : Int) (w' : World), DcQ c F d u n k → Below w.heap.size w w' → DcP c w (.returned (.tuple #[F.val, qV d u n, .int .i64 k])) w' := fun F d u n k w' h hb => ⟨F, d, u, n, k, h, rfl, hb⟩
 unfold DmP qV at cD
 replace cD := Lib.hid cD
 replace hgoal := Lib.hid hgoal
 obtain ⟨P, hP⟩ : ∃ P, DcP c w = P := ⟨_, rfl⟩
 rw [hP] at hgoal ⊢
 show Calls _ _ _ _ (fun e w' => P e w')
 obtain ⟨W0, hW0⟩ : ∃ W0, (w.alloc (.cells #[.int .i64 0, .int .i64 0, .int .i64 0, .int .i64 0, .int .i64 0, .int .i64 0, .int .i64 0, .int .u32 0, .string ⟨#[]⟩] 44)).alloc (.cells #[.int .i64 0, .int .i64 0, .int .i64 0] 46) = W0 := ⟨_, rfl⟩
 have hv0 : VAt W0 w.heap.size [.int .i64 0, .int .i64 0, .int .i64 0, .int .i64 0, .int .i64 0, .int .i64 0, .int .i64 0, .int .u32 0, .string ⟨#[]⟩] := by
  rw [← hW0]
  exact (vat_alloc w 44 [.int .i64 0, .int .i64 0, .int .i64 0, .int .i64 0, .int .i64 0, .int .i64 0, .int .i64 0, .int .u32 0, .string ⟨#[]⟩]).below ((Below.refl _ _).alloc (Nat.le_refl _) _) (by simp)
 have hq0 : VAt W0 (w.heap.size + 1) [.int .i64 0, .int .i64 0, .int .i64 0] := by
  have := vat_alloc (w.alloc (.cells #[.int .i64 0, .int .i64 0, .int .i64 0, .int .i64 0, .int .i64 0, .int .i64 0, .int .i64 0, .int .u32 0, .string ⟨#[]⟩] 44)) 46 [.int .i64 0, .int .i64 0, .int .i64 0]
  rw [World.size_alloc] at this
  rw [← hW0]
  exact this
 have hb0 : Below w.heap.size w W0 := by rw [← hW0]; exact two_made w _ _
 have hs0 : W0.heap.size = w.heap.size + 1 + 1 := by rw [← hW0]; simp
 have hBG : w.heap.size < W0.heap.size := by omega
 have hCG : w.heap.size + 1 < W0.heap.size := by omega
 replace hv0 := Lib.hid hv0
 replace hq0 := Lib.hid hq0
 replace hb0 := Lib.hid hb0
 replace hBG := Lib.hid hBG
 replace hCG := Lib.hid hCG
 clear hP hc hs0
 go_enter Tryz.func24, Tryz.ntmps24
 go_wp2_with fail
 refine (cD.out _).mono ?_
 rintro e w1 ⟨T, d, u, n, j, hR, rfl, hb1⟩
 clear hW0 cD
 have hvB1 := hv0.out.below hb1 hBG.out
 have hvC1 := hq0.out.below hb1 hCG.out
 have hbw1 := chain hb0.out hb1
 have hsB1 := Nat.lt_of_lt_of_le hBG.out hb1.size
 have hsC1 := Nat.lt_of_lt_of_le hCG.out hb1.size
 have hvQ2 := vat_alloc w1 46 [.int .i64 d, .int .i64 u, .int .i64 n]
 have hal := (Below.refl w1.heap.size w1).alloc (Nat.le_refl _) (.cells ([.int .i64 d, .int .i64 u, .int .i64 n] : List Value).toArray 46)
 obtain ⟨Q, hQ⟩ : ∃ Q, w1.heap.size = Q := ⟨_, rfl⟩
 obtain ⟨W2, hW2⟩ : ∃ W, w1.alloc (.cells #[.int .i64 d, .int .i64 u, .int .i64 n] 46) = W := ⟨_, rfl⟩
 rw [show w1.alloc (.cells ([.int .i64 d, .int .i64 u, .int .i64 n] : List Value).toArray 46) = W2 from hW2] at hal hvQ2
 rw [hQ] at hvQ2
 have hs2 : Q < W2.heap.size := by rw [← hW2, ← hQ]; simp
 have hvB2 := hvB1.below hal hsB1
 have hvC2 := hvC1.below hal hsC1
 have hbw2 := chain hbw1 hal
 have hBQ := Lib.hid (show w.heap.size < Q by omega)
 have hCQ := Lib.hid (show w.heap.size + 1 < Q by omega)
 clear hvB1 hvC1 hbw1 hsB1 hsC1 hal hv0 hq0 hb0 hBG hCG hb1
 by_cases hj : j = 0
 ·obtain ⟨S, h52, rfl, hR1, hR2⟩ := hR.1 hj
  subst hj
  have cN := fun W => unmarshal_own (S.extract 0 44) W (by rw [ByteArray.size_extract]; omega)
  rw [show (S.extract 0 44).data.toList = S.data.toList.take 44 by rw [ext_list, List.drop_zero]] at cN
  obtain ⟨F, hF⟩ : ∃ F, unF (S.data.toList.take 44) = F := ⟨_, rfl⟩
  obtain ⟨k2, hk2⟩ : ∃ k, unE (S.data.toList.take 44) = k := ⟨_, rfl⟩
  rw [hF, hk2] at cN
  rw [hk2] at hR1
  rw [hk2, hF] at hR2
  have hfin1 := Lib.hid (fun (h : k2 ≠ 0) w' hb => hgoal.out zeroF 0 0 0 k2 w' (hR1 h) hb)
  have hfin2 := Lib.hid (fun (h : k2 = 0) w' hb => hgoal.out F d u n 0 w' (hR2 h) hb)
  clear hF hk2 hR hR1 hR2 hgoal
  obtain ⟨kind, reel, sess, idx, len, data, spare, arch, pay⟩ := F
  unfold Fr.val at cN hfin2
  unfold Fr.cells at cN hfin2
  dsimp only at cN hfin2
  obtain ⟨T, hT⟩ : ∃ T, S.extract 0 44 = T := ⟨_, rfl⟩
  rw [hT] at cN ⊢
  replace cN := Lib.hid cN
  replace hvB2 := Lib.hid hvB2
  replace hvC2 := Lib.hid hvC2
  replace hvQ2 := Lib.hid hvQ2
  replace hbw2 := Lib.hid hbw2
  replace hs2 := Lib.hid hs2
  clear hT h52
  go_wp2_with fail
  refine (cN.out _).mono ?_
  rintro e w10 ⟨rfl, hb10⟩
  have hvQ10 := hvQ2.out.below hb10 hs2.out
  have hvB10 := hvB2.out.below hb10 (by have := hs2.out; have := hBQ.out; omega)
  have hvC10 := hvC2.out.below hb10 (by have := hs2.out; have := hCQ.out; omega)
  have hbw10 := chain hbw2.out hb10
  have hs10 : Q < w10.heap.size := by have := hs2.out; have := hb10.size; omega
  clear hW2 hvQ2 hvB2 hvC2 hbw2 hs2 hb10 cN
  have hal := (Below.refl w10.heap.size w10).alloc (Nat.le_refl _) (.cells ([.int .i64 kind, .int .i64 reel, .int .i64 sess, .int .i64 idx, .int .i64 len, .int .i64 data, .int .i64 spare, .int .u32 (arch.toNat : Int), .string pay] : List Value).toArray 44)
  have hvT := vat_alloc w10 44 [.int .i64 kind, .int .i64 reel, .int .i64 sess, .int .i64 idx, .int .i64 len, .int .i64 data, .int .i64 spare, .int .u32 (arch.toNat : Int), .string pay]
  obtain ⟨W11, hW11⟩ : ∃ W, w10.alloc (.cells #[.int .i64 kind, .int .i64 reel, .int .i64 sess, .int .i64 idx, .int .i64 len, .int .i64 data, .int .i64 spare, .int .u32 (arch.toNat : Int), .string pay] 44) = W := ⟨_, rfl⟩
  rw [show w10.alloc (.cells ([.int .i64 kind, .int .i64 reel, .int .i64 sess, .int .i64 idx, .int .i64 len, .int .i64 data, .int .i64 spare, .int .u32 (arch.toNat : Int), .string pay] : List Value).toArray 44) = W11 from hW11] at hal hvT
  have hTQ0 : w.heap.size + 1 < w10.heap.size := by have := hCQ.out; omega
  have hvQ11 := hvQ10.below hal hs10
  have hvB11 := hvB10.below hal (by have := hBQ.out; omega)
  have hvC11 := hvC10.below hal (by have := hCQ.out; omega)
  have hbw11 := chain hbw10 hal
  clear hvQ10 hvB10 hvC10 hbw10 hs10 hal
  obtain ⟨t0, t1, t2, t3, t4, t5, t6, t7, t8, _, _, _, _, _, _, _, _, _⟩ := cells9 hvT
  obtain ⟨f0, f1, f2, f3, f4, f5, f6, f7, f8, y0, y1, y2, y3, y4, y5, y6, y7, y8⟩ := cells9 hvB11
  obtain ⟨q0, q1, q2, z0, z1, z2⟩ := cells3 hvC11
  obtain ⟨r0, r1, r2, _, _, _⟩ := cells3 hvQ11
  by_cases hk20 : k2 = 0
  ·have hfin := Lib.hid (hfin2.out hk20)
   have hnBC : w.heap.size ≠ w.heap.size + 1 := by omega
   have hnBQ := hBQ.out
   have hnCQ := hCQ.out
   have hTQ := Lib.hid hTQ0
   obtain ⟨g9, g3, gb⟩ := wrote (l9 := [.int .i64 kind, .int .i64 reel, .int .i64 sess, .int .i64 idx, .int .i64 len, .int .i64 data, .int .i64 spare, .int .u32 (arch.toNat : Int), .string pay]) (l3 := [.int .i64 d, .int .i64 u, .int .i64 n]) hvB11 hvC11 rfl rfl hnBC hbw11 (Nat.le_refl _) (by omega)
   have gB : VAt (putN w.heap.size W11 0 [.int .i64 kind, .int .i64 reel, .int .i64 sess, .int .i64 idx, .int .i64 len, .int .i64 data, .int .i64 spare, .int .u32 (arch.toNat : Int), .string pay]) w.heap.size [.int .i64 kind, .int .i64 reel, .int .i64 sess, .int .i64 idx, .int .i64 len, .int .i64 data, .int .i64 spare, .int .u32 (arch.toNat : Int), .string pay] := putN_all hvB11 rfl
   have gBC : VAt (putN w.heap.size W11 0 [.int .i64 kind, .int .i64 reel, .int .i64 sess, .int .i64 idx, .int .i64 len, .int .i64 data, .int .i64 spare, .int .u32 (arch.toNat : Int), .string pay]) (w.heap.size + 1) [.int .i64 0, .int .i64 0, .int .i64 0] := putN_far hnBC [.int .i64 kind, .int .i64 reel, .int .i64 sess, .int .i64 idx, .int .i64 len, .int .i64 data, .int .i64 spare, .int .u32 (arch.toNat : Int), .string pay] 0 _ hvC11
   have gBQ : VAt (putN w.heap.size W11 0 [.int .i64 kind, .int .i64 reel, .int .i64 sess, .int .i64 idx, .int .i64 len, .int .i64 data, .int .i64 spare, .int .u32 (arch.toNat : Int), .string pay]) Q [.int .i64 d, .int .i64 u, .int .i64 n] := putN_far (by omega) [.int .i64 kind, .int .i64 reel, .int .i64 sess, .int .i64 idx, .int .i64 len, .int .i64 data, .int .i64 spare, .int .u32 (arch.toNat : Int), .string pay] 0 _ hvQ11
   have gCT : VAt (putN (w.heap.size + 1) W11 0 [.int .i64 d, .int .i64 u, .int .i64 n]) w10.heap.size [.int .i64 kind, .int .i64 reel, .int .i64 sess, .int .i64 idx, .int .i64 len, .int .i64 data, .int .i64 spare, .int .u32 (arch.toNat : Int), .string pay] := putN_far (by have := hTQ.out; omega) [.int .i64 d, .int .i64 u, .int .i64 n] 0 _ hvT
   have gCB : VAt (putN (w.heap.size + 1) W11 0 [.int .i64 d, .int .i64 u, .int .i64 n]) w.heap.size [.int .i64 0, .int .i64 0, .int .i64 0, .int .i64 0, .int .i64 0, .int .i64 0, .int .i64 0, .int .u32 0, .string ⟨#[]⟩] := putN_far (Ne.symm hnBC) [.int .i64 d, .int .i64 u, .int .i64 n] 0 _ hvB11
   have gC : VAt (putN (w.heap.size + 1) W11 0 [.int .i64 d, .int .i64 u, .int .i64 n]) (w.heap.size + 1) [.int .i64 d, .int .i64 u, .int .i64 n] := putN_all hvC11 rfl
   have k9 : VAt (putN w.heap.size (putN (w.heap.size + 1) W11 0 [.int .i64 d, .int .i64 u, .int .i64 n]) 0 [.int .i64 kind, .int .i64 reel, .int .i64 sess, .int .i64 idx, .int .i64 len, .int .i64 data, .int .i64 spare, .int .u32 (arch.toNat : Int), .string pay]) w.heap.size [.int .i64 kind, .int .i64 reel, .int .i64 sess, .int .i64 idx, .int .i64 len, .int .i64 data, .int .i64 spare, .int .u32 (arch.toNat : Int), .string pay] := putN_all gCB rfl
   have k3 : VAt (putN w.heap.size (putN (w.heap.size + 1) W11 0 [.int .i64 d, .int .i64 u, .int .i64 n]) 0 [.int .i64 kind, .int .i64 reel, .int .i64 sess, .int .i64 idx, .int .i64 len, .int .i64 data, .int .i64 spare, .int .u32 (arch.toNat : Int), .string pay]) (w.heap.size + 1) [.int .i64 d, .int .i64 u, .int .i64 n] := putN_far hnBC [.int .i64 kind, .int .i64 reel, .int .i64 sess, .int .i64 idx, .int .i64 len, .int .i64 data, .int .i64 spare, .int .u32 (arch.toNat : Int), .string pay] 0 _ gC
   have kb : Below w.heap.size w (putN w.heap.size (putN (w.heap.size + 1) W11 0 [.int .i64 d, .int .i64 u, .int .i64 n]) 0 [.int .i64 kind, .int .i64 reel, .int .i64 sess, .int .i64 idx, .int .i64 len, .int .i64 data, .int .i64 spare, .int .u32 (arch.toNat : Int), .string pay]) := putN_below (Nat.le_refl _) [.int .i64 kind, .int .i64 reel, .int .i64 sess, .int .i64 idx, .int .i64 len, .int .i64 data, .int .i64 spare, .int .u32 (arch.toNat : Int), .string pay] 0 _ (putN_below (by omega) [.int .i64 d, .int .i64 u, .int .i64 n] 0 _ hbw11)
   obtain ⟨WB, hWB⟩ : ∃ W, putN w.heap.size W11 0 [.int .i64 kind, .int .i64 reel, .int .i64 sess, .int .i64 idx, .int .i64 len, .int .i64 data, .int .i64 spare, .int .u32 (arch.toNat : Int), .string pay] = W := ⟨_, rfl⟩
   obtain ⟨WC, hWC⟩ : ∃ W, putN (w.heap.size + 1) W11 0 [.int .i64 d, .int .i64 u, .int .i64 n] = W := ⟨_, rfl⟩
   rw [hWB] at g9 g3 gb gBC gBQ
   rw [hWC] at gCT gCB k9 k3 kb
   obtain ⟨WE, hWE⟩ : ∃ W, putN (w.heap.size + 1) WB 0 [.int .i64 d, .int .i64 u, .int .i64 n] = W := ⟨_, rfl⟩
   obtain ⟨WF, hWF⟩ : ∃ W, putN w.heap.size WC 0 [.int .i64 kind, .int .i64 reel, .int .i64 sess, .int .i64 idx, .int .i64 len, .int .i64 data, .int .i64 spare, .int .u32 (arch.toNat : Int), .string pay] = W := ⟨_, rfl⟩
   rw [hWE] at g9 g3 gb
   rw [hWF] at k9 k3 kb
   simp only [putN, Nat.zero_add, Nat.reduceAdd] at hWB hWC hWE hWF
   obtain ⟨c0, c1, c2, c3, c4, c5, c6, c7, c8, _, _, _, _, _, _, _, _, _⟩ := cells9 g9
   obtain ⟨p0, p1, p2, _, _, _⟩ := cells3 g3
   obtain ⟨c0', c1', c2', c3', c4', c5', c6', c7', c8', _, _, _, _, _, _, _, _, _⟩ := cells9 k9
   obtain ⟨p0', p1', p2', _, _, _⟩ := cells3 k3
   obtain ⟨a0, a1, a2, a3, a4, a5⟩ := cells3 gBC
   obtain ⟨b0, b1, b2, _, _, _⟩ := cells3 gBQ
   obtain ⟨t0', t1', t2', t3', t4', t5', t6', t7', t8', _, _, _, _, _, _, _, _, _⟩ := cells9 gCT
   obtain ⟨f0', f1', f2', f3', f4', f5', f6', f7', f8', y0', y1', y2', y3', y4', y5', y6', y7', y8'⟩ := cells9 gCB
   have gb1 := Lib.hid gb
   have kb1 := Lib.hid kb
   clear hvT hvB11 hvC11 hvQ11 hbw11 hfin1 hfin2 gB gBC gBQ gCT gCB gC g9 g3 k9 k3 gb kb hnBC hnBQ hnCQ
   subst hk20
   go_wp2_with fail
   go_region
   all_goals
    go_wp2
    first
     |(refine bodyPost_ret (v := .tuple #[.agg #[.int .i64 kind, .int .i64 reel, .int .i64 sess, .int .i64 idx, .int .i64 len, .int .i64 data, .int .i64 spare, .int .u32 (arch.toNat : Int), .string pay], qV d u n, .int .i64 0]) ?_ rfl (hfin.out _ gb1.out.drew)
       simp [results, Tryz.results24, go_sem, c0, c1, c2, c3, c4, c5, c6, c7, c8, p0, p1, p2]
       rfl)
     |(refine bodyPost_ret (v := .tuple #[.agg #[.int .i64 kind, .int .i64 reel, .int .i64 sess, .int .i64 idx, .int .i64 len, .int .i64 data, .int .i64 spare, .int .u32 (arch.toNat : Int), .string pay], qV d u n, .int .i64 0]) ?_ rfl (hfin.out _ kb1.out.drew)
       simp [results, Tryz.results24, go_sem, c0', c1', c2', c3', c4', c5', c6', c7', c8', p0', p1', p2']
       rfl)
  ·have d4 : (k2 != 0) = true := bne_iff_ne.2 hk20
   have hfin := Lib.hid (hfin1.out hk20)
   obtain ⟨g9, g3, gb⟩ := wrote (l9 := [.int .i64 0, .int .i64 0, .int .i64 0, .int .i64 0, .int .i64 0, .int .i64 0, .int .i64 0, .int .u32 0, .string ⟨#[]⟩]) (l3 := [.int .i64 0, .int .i64 0, .int .i64 0]) hvB11 hvC11 rfl rfl (by omega) hbw11 (Nat.le_refl _) (by omega)
   have g9 := cells9 g9
   have g3 := cells3 g3
   obtain ⟨WE, hWE⟩ : ∃ WE, putN (w.heap.size + 1) (putN w.heap.size W11 0 [.int .i64 0, .int .i64 0, .int .i64 0, .int .i64 0, .int .i64 0, .int .i64 0, .int .i64 0, .int .u32 0, .string ⟨#[]⟩]) 0 [.int .i64 0, .int .i64 0, .int .i64 0] = WE := ⟨_, rfl⟩
   rw [hWE] at g9 g3 gb
   simp only [putN] at hWE
   obtain ⟨c0, c1, c2, c3, c4, c5, c6, c7, c8, _, _, _, _, _, _, _, _, _⟩ := g9
   obtain ⟨p0, p1, p2, _, _, _⟩ := g3
   replace gb := Lib.hid gb
   clear hvT hvB11 hvC11 hvQ11 hbw11 hfin1 hfin2 r0 r1 r2 t0 t1 t2 t3 t4 t5 t6 t7 t8
   go_wp2
   refine bodyPost_ret (v := .tuple #[zeroF.val, qV 0 0 0, .int .i64 k2]) ?_ rfl (hfin.out _ gb.out)
   simp [results, Tryz.results24, go_sem, c0, c1, c2, c3, c4, c5, c6, c7, c8, p0, p1, p2]
   exact ⟨rfl, rfl⟩
 ·have d4 : (j != 0) = true := bne_iff_ne.2 hj
  have hfin := Lib.hid (fun w' hb => hgoal.out zeroF 0 0 0 j w' (hR.2 hj) hb)
  obtain ⟨g9, g3, gb⟩ := wrote (l9 := [.int .i64 0, .int .i64 0, .int .i64 0, .int .i64 0, .int .i64 0, .int .i64 0, .int .i64 0, .int .u32 0, .string ⟨#[]⟩]) (l3 := [.int .i64 0, .int .i64 0, .int .i64 0]) hvB2 hvC2 rfl rfl (by omega) hbw2 (Nat.le_refl _) (by omega)
  obtain ⟨f0, f1, f2, f3, f4, f5, f6, f7, f8, y0, y1, y2, y3, y4, y5, y6, y7, y8⟩ := cells9 hvB2
  obtain ⟨q0, q1, q2, z0, z1, z2⟩ := cells3 hvC2
  have g9 := cells9 g9
  have g3 := cells3 g3
  obtain ⟨WE, hWE⟩ : ∃ WE, putN (w.heap.size + 1) (putN w.heap.size W2 0 [.int .i64 0, .int .i64 0, .int .i64 0, .int .i64 0, .int .i64 0, .int .i64 0, .int .i64 0, .int .u32 0, .string ⟨#[]⟩]) 0 [.int .i64 0, .int .i64 0, .int .i64 0] = WE := ⟨_, rfl⟩
  rw [hWE] at g9 g3 gb
  simp only [putN] at hWE
  obtain ⟨c0, c1, c2, c3, c4, c5, c6, c7, c8, _, _, _, _, _, _, _, _, _⟩ := g9
  obtain ⟨p0, p1, p2, _, _, _⟩ := g3
  replace gb := Lib.hid gb
  clear hR hvB2 hvC2 hvQ2 hbw2 hgoal
  go_wp2
  refine bodyPost_ret (v := .tuple #[zeroF.val, qV 0 0 0, .int .i64 j]) ?_ rfl (hfin.out _ gb.out)
  simp [results, Tryz.results24, go_sem, c0, c1, c2, c3, c4, c5, c6, c7, c8, p0, p1, p2]
  exact ⟨rfl, rfl⟩
end F13
end Go.Proofs.YtiodkllckcpinaaGreatDoor
