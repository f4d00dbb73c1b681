/- Facts and contracts that the walks of this layer use, merged: F13Own4, F13Own7, F13Own8, F13Own9, F13OwnA. -/
import Derived.Test.YtgpdfkallgjocaaGreatDoorM13AQ
import Derived.StillTailTactics
import Derived.Test.YtgpdfkallgjocaaGreatDoorM13AG
import Derived.Test.YtgpdfkallgjocaaGreatDoorM13AF
import Derived.Test.YtgpdfkallgjocaaGreatDoorM13AR
import Derived.Test.YtgpdfkallgjocaaGreatDoorM13AU
import Derived.Test.YtgpdfkallgjocaaGreatDoorM13AI
namespace Go.Proofs.YtgpdfkallgjocaaGreatDoor.F13
set_option maxRecDepth 100000
open Go.RowKit Mem
set_option linter.unusedVariables false
set_option linter.unusedSimpArgs false

theorem frOf_take {l : List UInt8} (h : l.length = 44) : frOf (l.take 40) = frOf l := by
  have hb : ∀ i, i < 40 → bt (l.take 40) i = bt l i := fun i hi => by
    unfold bt
    rw [List.getD_eq_getElem?_getD, List.getD_eq_getElem?_getD, List.getElem?_take_of_lt hi]
  unfold frOf
  rw [hb 0 (by decide), hb 1 (by decide), hb 2 (by decide), hb 3 (by decide), hb 4 (by decide), hb 5 (by decide), hb 6 (by decide), hb 7 (by decide), hb 8 (by decide), hb 9 (by decide), hb 10 (by decide), hb 11 (by decide), List.drop_take, List.take_take]
  rfl
theorem frOf_fit (l : List UInt8) : Fit (frOf l) := by
  have b := fun i => bt_fit l i
  have b0 := b 0
  have b1 := b 1
  have b2 := b 2
  have b3 := b 3
  have b4 := b 4
  have b5 := b 5
  have b6 := b 6
  have b7 := b 7
  unfold frOf
  refine ⟨?_, ?_, ?_, ?_, ?_, ?_, ?_, ?_⟩
  all_goals dsimp only
  any_goals omega
  show ((l.drop 12).take 28).length ≤ _
  rw [List.length_take]
  omega
set_option maxHeartbeats 8000000 in
theorem fields_own (s : ByteArray) (w : World) (hs : s.size = 40) : Calls Tryz.prog 33 #[.string s] w fun e w' => e = .returned (frOf s.data.toList).val ∧ Below w.heap.size w w' := by
  have hl : s.data.toList.length = 40 := by simpa using hs
  obtain ⟨n0, n1, n2, n3, n4, n5, n6, n7, n8, n9, na, nb, D1, D2, hbd⟩ := bd_of s.data.toList
  have hfr := hbd.fr
  have hpay : (⟨((s.data.toList.drop 12).take 28).toArray⟩ : ByteArray) = s.extract 12 40 := str_eq (by rw [ext_list, List.drop_take])
  rw [hpay] at hfr
  have cv : ∀ (i j : Nat) (n : Int), j ≤ i + 4 → (vlN ((s.data.toList.take j).drop i) : Int) = n → ∀ W, Calls Tryz.prog 71 #[.string (s.extract i j)] W fun e w' => e = .returned (.int .i64 n) ∧ w' = W := fun i j n hij hn W => by
    have := value_own (s.extract i j) W (by rw [ByteArray.size_extract]; omega)
    rw [ext_list, hn] at this
    exact this.mono fun e w' h => ⟨h.1, h.2.symm⟩
  have o := fun i (hi : i < 40) => vl_one (l := s.data.toList) (i := i) (by omega)
  have u := fun i j (hij : i ≤ j) (hj : j < 40) => vl_succ (l := s.data.toList) hij (show j < s.data.toList.length by omega)
  have c0 := cv 0 1 n0 (by decide) ((o 0 (by decide)).trans hbd.e0)
  have c1 := cv 1 2 n1 (by decide) ((o 1 (by decide)).trans hbd.e1)
  have c2 := cv 2 4 (256 * n2 + n3) (by decide) (by rw [u 2 3 (by decide) (by decide), o 2 (by decide), hbd.e2, hbd.e3]; omega)
  have c4 := cv 4 6 (256 * n4 + n5) (by decide) (by rw [u 4 5 (by decide) (by decide), o 4 (by decide), hbd.e4, hbd.e5]; omega)
  have c6 := cv 6 7 n6 (by decide) ((o 6 (by decide)).trans hbd.e6)
  have c7 := cv 7 8 n7 (by decide) ((o 7 (by decide)).trans hbd.e7)
  have c8 := cv 8 12 (((n8 * 256 + n9) * 256 + na) * 256 + nb) (by decide) (by rw [u 8 11 (by decide) (by decide), u 8 10 (by decide) (by decide), u 8 9 (by decide) (by decide), o 8 (by decide), hbd.e8, hbd.e9, hbd.ea, hbd.eb])
  obtain ⟨e0, e1, e2, e3, e4, e5, e6, e7, e8, e9, ea, eb, q1, q1', q2, q2', b2, b3, b4, b5, b7, b8, b9, ba, bb, _⟩ := hbd
  obtain ⟨x2, hx2⟩ : ∃ x, 256 * n2 + n3 = x := ⟨_, rfl⟩
  obtain ⟨x4, hx4⟩ : ∃ x, 256 * n4 + n5 = x := ⟨_, rfl⟩
  obtain ⟨x8, hx8⟩ : ∃ x, ((n8 * 256 + n9) * 256 + na) * 256 + nb = x := ⟨_, rfl⟩
  rw [hx2] at c2 hfr
  rw [hx4] at c4 hfr
  rw [hx8] at c8 hfr
  have wc : IntKind.u32.wrap x8 = x8 := IntWalk.u32_in _ (by omega)
  have hx80 : 0 ≤ x8 := by omega
  have hx81 : x8 ≤ 4294967295 := by omega
  obtain ⟨F, hF⟩ : ∃ F, frOf s.data.toList = F := ⟨_, rfl⟩
  rw [hF] at hfr ⊢
  unfold Fr.val
  rw [hfr]
  replace c0 := Lib.hid c0
  replace c1 := Lib.hid c1
  replace c2 := Lib.hid c2
  replace c4 := Lib.hid c4
  replace c6 := Lib.hid c6
  replace c7 := Lib.hid c7
  replace c8 := Lib.hid c8
  have i2 : (s.size : Int) = 40 := by omega
  obtain ⟨W0, hW0⟩ : ∃ W0, w.alloc (.cells zeroF.cells 26) = W0 := ⟨_, rfl⟩
  have hb0 : Below w.heap.size w W0 := by rw [← hW0]; exact (Below.refl _ _).alloc (Nat.le_refl _) _
  have hv0 : VAt W0 w.heap.size zeroF.cells.toList := by rw [← hW0]; exact vat_alloc w _ _
  unfold zeroF Fr.cells at hW0
  simp only [BitVec.toNat_ofNat, Nat.zero_mod, Int.natCast_zero] at hW0
  replace hv0 := Lib.hid hv0
  replace hb0 := Lib.hid hb0
  have wd : IntKind.i64.wrap D1 = D1 := IntWalk.i64_in _ (by omega)
  clear hx2 hx4 hx8 hF hfr hpay hl e0 e1 e2 e3 e4 e5 e6 e7 e8 e9 ea eb b2 b3 b4 b5 b8 b9 ba bb cv o u
  go_enter Tryz.func33, Tryz.ntmps33
  go_wp2_with fail
  clear hW0
  refine (c7.out _).mono ?_
  rintro e w1 ⟨rfl, rfl⟩
  go_wp2_with fail
  refine wp_region_still_tail 27 (by kernel_rfl) (by kernel_rfl) ?_
  simp only [List.take_succ_cons, List.take_zero, List.drop_succ_cons, List.drop_zero]
  repeat still_step
  still_call (c0.out _)
  repeat still_step
  still_call (c1.out _)
  repeat still_step
  still_call (c2.out _)
  repeat still_step
  still_call (c4.out _)
  repeat still_step
  still_call (c6.out _)
  repeat still_step
  still_call (c8.out _)
  repeat still_step
  refine wpStill_nil ?_
  have hv1 := hv0.out.drew
  have hb1 := chainN hb0.out 1
  rw [show w1.drewN 1 = w1.drew from rfl] at hb1
  change wpList _ _ _ _ _ w1.drew
  obtain ⟨Wd, hWd⟩ : ∃ W, w1.drew = W := ⟨_, rfl⟩
  rw [hWd] at hv1 hb1 ⊢
  obtain ⟨f0, f1, f2, f3, f4, f5, f6, f7, f8, g0, g1, g2, g3, g4, g5, g6, g7, g8⟩ := cells9 (v0 := .int .i64 0) (v1 := .int .i64 0) (v2 := .int .i64 0) (v3 := .int .i64 0) (v4 := .int .i64 0) (v5 := .int .i64 0) (v6 := .int .i64 0) (v7 := .int .u32 0) (v8 := .string ⟨#[]⟩) hv1
  have hput := Lib.hid (cells9 (putN_all (l := [.int .i64 n0, .int .i64 n1, .int .i64 x2, .int .i64 x4, .int .i64 n6, .int .i64 D1, .int .i64 D2, .int .u32 x8, .string (s.extract 12 40)]) hv1 rfl))
  have hbel := Lib.hid (putN_below (Nat.le_refl _) [.int .i64 n0, .int .i64 n1, .int .i64 x2, .int .i64 x4, .int .i64 n6, .int .i64 D1, .int .i64 D2, .int .u32 x8, .string (s.extract 12 40)] 0 _ hb1)
  obtain ⟨W5, hW5⟩ : ∃ W5, putN w.heap.size Wd 0 [.int .i64 n0, .int .i64 n1, .int .i64 x2, .int .i64 x4, .int .i64 n6, .int .i64 D1, .int .i64 D2, .int .u32 x8, .string (s.extract 12 40)] = W5 := ⟨_, rfl⟩
  rw [hW5] at hput hbel
  simp only [putN] at hW5
  clear hv1 hb1 hv0 hb0 hWd
  go_wp2
  first | rw [hW5] | skip
  obtain ⟨c0', c1', c2', c3', c4', c5', c6', c7', c8', _, _, _, _, _, _, _, _, _⟩ := hput.out
  refine bodyPost_ret (v := .agg #[.int .i64 n0, .int .i64 n1, .int .i64 x2, .int .i64 x4, .int .i64 n6, .int .i64 D1, .int .i64 D2, .int .u32 x8, .string (s.extract 12 40)]) ?_ rfl ⟨rfl, hbel.out⟩
  simp [results, Tryz.results33, go_sem, c0', c1', c2', c3', c4', c5', c6', c7', c8']
set_option maxHeartbeats 16000000 in
theorem unmarshal_own (b : ByteArray) (w : World) (hb : b.size ≤ 1000000) :
    Calls Tryz.prog 14 #[.string b] w fun e w' => e = .returned (.tuple #[(unF b.data.toList).val, .int .i64 (unE b.data.toList)]) ∧ Below w.heap.size w w' := by
  have hll : b.data.toList.length = b.size := by simp
  by_cases h44 : b.size = 44
  · have t1 : ((b.size : Int) != 44) = false := by rw [h44]; rfl
    have hxs : (b.extract 0 40).size = 40 := by rw [ByteArray.size_extract]; omega
    have cS := fun W => checksum_own (b.extract 0 40) W (by omega)
    have cF := fun W => fields_own (b.extract 0 40) W hxs
    rw [ext_list, List.drop_zero] at cS cF
    rw [frOf_take (by omega)] at cF
    have hq := str_beq (b.extract 40 b.size) ⟨(K3.byL (K3.sumL (b.data.toList.take 40))).toArray⟩
    rw [ext_list, List.take_of_length_le (show b.data.toList.length ≤ b.size by omega)] at hq
    rw [show (⟨(K3.byL (K3.sumL (b.data.toList.take 40))).toArray⟩ : ByteArray).data.toList = K3.byL (K3.sumL (b.data.toList.take 40)) from rfl] at hq
    rw [h44] at hq
    obtain ⟨Q, hQ⟩ : ∃ Q, (⟨(K3.byL (K3.sumL (b.data.toList.take 40))).toArray⟩ : ByteArray) = Q := ⟨_, rfl⟩
    rw [hQ] at cS hq
    replace cS := Lib.hid cS
    have i1 : (40 : Int) ≤ (b.size : Int) := by omega
    have i2 : (b.size : Int) = 44 := by omega
    have keep := fun (w1 W : World) (h : Below w1.heap.size w1 W) => chainN h 1
    by_cases hs : K3.byL (K3.sumL (b.data.toList.take 40)) = b.data.toList.drop 40
    · obtain ⟨e1, e2⟩ := unE_ok (by omega) hs
      rw [e1, e2]
      rw [decide_eq_true hs.symm] at hq
      have hpay : (⟨((b.data.toList.drop 12).take 28).toArray⟩ : ByteArray) = b.extract 12 40 := str_eq (by
        rw [ext_list, List.drop_take])
      obtain ⟨l, hl⟩ : ∃ l, b.data.toList = l := ⟨_, rfl⟩
      rw [hl] at hpay cF ⊢
      obtain ⟨n0, n1, n2, n3, n4, n5, n6, n7, n8, n9, na, nb, D1, D2, hbd⟩ := bd_of l
      have hfr := hbd.fr
      rw [hpay] at hfr
      have hft := frOf_fit l
      have cC := fun W => check_own (frOf l) W hft
      obtain ⟨F, hF⟩ : ∃ F, frOf l = F := ⟨_, rfl⟩
      rw [hF] at hfr cC cF ⊢
      obtain ⟨m2, hm2⟩ : ∃ m, 256 * n2 + n3 = m := ⟨_, rfl⟩
      obtain ⟨m4, hm4⟩ : ∃ m, 256 * n4 + n5 = m := ⟨_, rfl⟩
      obtain ⟨m8, hm8⟩ : ∃ m, ((n8 * 256 + n9) * 256 + na) * 256 + nb = m := ⟨_, rfl⟩
      rw [hm2, hm4, hm8] at hfr
      unfold Fr.val at cC cF
      rw [hfr] at cC cF
      obtain ⟨V, hV⟩ : ∃ V, (if ckE F = 0 then F else zeroF).val = V := ⟨_, rfl⟩
      obtain ⟨kk, hkk⟩ : ∃ kk, ckE F = kk := ⟨_, rfl⟩
      have hyes : Hid (kk = 0 → V = .agg F.cells) := Lib.hid (fun h => by rw [← hV, if_pos (hkk.trans h)]; rfl)
      have hno : Hid (kk ≠ 0 → V = zeroF.val) := Lib.hid (fun h => by rw [← hV, if_neg (fun e => h (hkk.symm.trans e))])
      rw [hV, hkk]
      rw [hkk] at cC
      clear hV hkk
      replace cC := Lib.hid cC
      replace cF := Lib.hid cF
      have hFr := Lib.hid hfr
      obtain ⟨P, hP⟩ : ∃ P, b.extract 12 40 = P := ⟨_, rfl⟩
      rw [hP] at cC cF hFr
      clear hs e1 e2 hQ hll hb hl hpay hF hft hfr hm2 hm4 hm8 hbd hxs hP
      go_enter Tryz.func14, Tryz.ntmps14
      go_wp2_with fail
      obtain ⟨W0, hW0⟩ : ∃ W0, w.alloc (.cells zeroF.cells 26) = W0 := ⟨_, rfl⟩
      have hb0 : Below w.heap.size w W0 := by rw [← hW0]; exact (Below.refl _ _).alloc (Nat.le_refl _) _
      have hv0 : VAt W0 w.heap.size zeroF.cells.toList := by rw [← hW0]; exact vat_alloc w _ _
      have hs0 : w.heap.size < W0.heap.size := by rw [← hW0]; simp
      unfold zeroF Fr.cells at hW0
      simp only [BitVec.toNat_ofNat, Nat.zero_mod, Int.natCast_zero] at hW0
      rw [hW0]
      clear hW0
      have keep0 := Below.refl W0.heap.size W0
      have keep1 := keep W0
      go_region_held3 (fun W => Below W0.heap.size W0 W) (first | exact keep0 | exact keep1 _ keep0 | exact chain ‹_› ‹_› | assumption) (first | (go_at_call 29; (with_reducible refine (cS.out _).mono ?_); rintro e w9 ⟨rfl, hb9⟩))
      rename_i hbe
      have hv1 := hv0.below hbe hs0
      have hBw := chain hb0 hbe
      have hs1 : w.heap.size < w9.heap.size := Nat.lt_of_lt_of_le hs0 hbe.size
      replace hv1 := Lib.hid hv1
      replace hBw := Lib.hid hBw
      replace hs1 := Lib.hid hs1
      clear keep0 keep1 hv0 hb0 hs0 hbe hb9 cS keep
      go_wp2_with fail
      refine (cF.out _).mono ?_
      rintro e w10 ⟨rfl, hb10⟩
      have hv2 := Lib.hid (hv1.out.below hb10 hs1.out)
      have hB2 := Lib.hid (chain hBw.out hb10)
      have hs2 := Lib.hid (Nat.lt_of_lt_of_le hs1.out hb10.size)
      clear hv1 hBw hs1 cF
      have ht := vat_alloc w10 26 [.int .i64 n0, .int .i64 n1, .int .i64 m2, .int .i64 m4, .int .i64 n6, .int .i64 D1, .int .i64 D2, .int .u32 m8, .string P]
      obtain ⟨T, hT⟩ : ∃ T, w10.heap.size = T := ⟨_, rfl⟩
      obtain ⟨Wt, hWt⟩ : ∃ Wt, w10.alloc (.cells #[.int .i64 n0, .int .i64 n1, .int .i64 m2, .int .i64 m4, .int .i64 n6, .int .i64 D1, .int .i64 D2, .int .u32 m8, .string P] 26) = Wt := ⟨_, rfl⟩
      have hal : Below w10.heap.size w10 Wt := by rw [← hWt]; exact (Below.refl _ _).alloc (Nat.le_refl _) _
      have hst : T < Wt.heap.size := by rw [← hWt, ← hT]; simp
      have hsB : w.heap.size < Wt.heap.size := Nat.lt_of_lt_of_le hs2.out hal.size
      have hbw3 := chain hB2.out hal
      have hv3 := hv2.out.below hal hs2.out
      rw [show w10.alloc (.cells [.int .i64 n0, .int .i64 n1, .int .i64 m2, .int .i64 m4, .int .i64 n6, .int .i64 D1, .int .i64 D2, .int .u32 m8, .string P].toArray 26) = Wt from hWt, hT] at ht
      have ht9 := cells9 ht
      replace ht := Lib.hid ht
      replace hv3 := Lib.hid hv3
      replace hbw3 := Lib.hid hbw3
      replace hst := Lib.hid hst
      replace hsB := Lib.hid hsB
      obtain ⟨t0, t1', t2, t3, t4, t5, t6, t7, t8, _, _, _, _, _, _, _, _, _⟩ := ht9
      clear hs2 hv2 hB2 hal hb10
      go_wp2_with fail
      refine (cC.out _).mono ?_
      rintro e w11 ⟨rfl, hb11⟩
      clear t0 t1' t2 t3 t4 t5 t6 t7 t8 hWt
      have hbw4 := Lib.hid (chain hbw3.out hb11)
      have ht4 := cells9 (ht.out.below hb11 hst.out)
      have hv4 := hv3.out.below hb11 hsB.out
      obtain ⟨t0, t1', t2, t3, t4, t5, t6, t7, t8, _, _, _, _, _, _, _, _, _⟩ := ht4
      have hv9 := cells9 (v0 := .int .i64 0) (v1 := .int .i64 0) (v2 := .int .i64 0) (v3 := .int .i64 0) (v4 := .int .i64 0) (v5 := .int .i64 0) (v6 := .int .i64 0) (v7 := .int .u32 0) (v8 := .string ⟨#[]⟩) hv4
      obtain ⟨f0, f1, f2, f3, f4, f5, f6, f7, f8, g0, g1, g2, g3, g4, g5, g6, g7, g8⟩ := hv9
      replace hv4 := Lib.hid hv4
      clear ht hv3 hbw3 hst hsB hb11 cC
      by_cases hk0 : kk = 0
      · have hval := hyes.out hk0
        rw [hFr.out] at hval
        replace hval := Lib.hid hval
        subst hk0
        have hput := Lib.hid (cells9 (putN_all (l := [.int .i64 n0, .int .i64 n1, .int .i64 m2, .int .i64 m4, .int .i64 n6, .int .i64 D1, .int .i64 D2, .int .u32 m8, .string P]) hv4.out rfl))
        have hbel := Lib.hid (putN_below (Nat.le_refl _) [.int .i64 n0, .int .i64 n1, .int .i64 m2, .int .i64 m4, .int .i64 n6, .int .i64 D1, .int .i64 D2, .int .u32 m8, .string P] 0 _ hbw4.out)
        obtain ⟨W5, hW5⟩ : ∃ W5, putN w.heap.size w11 0 [.int .i64 n0, .int .i64 n1, .int .i64 m2, .int .i64 m4, .int .i64 n6, .int .i64 D1, .int .i64 D2, .int .u32 m8, .string P] = W5 := ⟨_, rfl⟩
        rw [hW5] at hput hbel
        simp only [putN] at hW5
        clear hv4 hbw4 hFr hyes hno
        go_wp2
        first | rw [hW5] | skip
        obtain ⟨c0, c1, c2, c3, c4, c5, c6, c7, c8, _, _, _, _, _, _, _, _, _⟩ := hput.out
        refine bodyPost_ret (v := .tuple #[.agg #[.int .i64 n0, .int .i64 n1, .int .i64 m2, .int .i64 m4, .int .i64 n6, .int .i64 D1, .int .i64 D2, .int .u32 m8, .string P], .int .i64 0]) ?_ rfl ⟨by rw [hval.out], hbel.out⟩
        simp [results, Tryz.results14, go_sem, c0, c1, c2, c3, c4, c5, c6, c7, c8]
      · have hval := hno.out hk0
        replace hval := Lib.hid hval
        have hput := Lib.hid (cells9 (v0 := .int .i64 0) (v1 := .int .i64 0) (v2 := .int .i64 0) (v3 := .int .i64 0) (v4 := .int .i64 0) (v5 := .int .i64 0) (v6 := .int .i64 0) (v7 := .int .u32 0) (v8 := .string ⟨#[]⟩) (putN_all (l := zeroF.cells.toList) hv4.out rfl))
        have hbel := Lib.hid (putN_below (Nat.le_refl _) zeroF.cells.toList 0 _ hbw4.out)
        obtain ⟨W5, hW5⟩ : ∃ W5, putN w.heap.size w11 0 zeroF.cells.toList = W5 := ⟨_, rfl⟩
        rw [hW5] at hput hbel
        unfold zeroF Fr.cells at hW5
        simp only [putN, BitVec.toNat_ofNat, Nat.zero_mod, Int.natCast_zero] at hW5
        have hz : (kk != 0) = true := bne_iff_ne.2 hk0
        clear hv4 hbw4 hFr hk0 hyes hno
        go_wp2
        first | rw [hW5] | skip
        obtain ⟨c0, c1, c2, c3, c4, c5, c6, c7, c8, _, _, _, _, _, _, _, _, _⟩ := hput.out
        refine bodyPost_ret (v := .tuple #[zeroF.val, .int .i64 kk]) ?_ rfl ⟨by rw [hval.out], hbel.out⟩
        simp [results, Tryz.results14, go_sem, c0, c1, c2, c3, c4, c5, c6, c7, c8]
        rfl
    · obtain ⟨e1, e2⟩ := unE_sum (by omega) hs
      rw [e1, e2]
      rw [decide_eq_false (fun h => hs h.symm)] at hq
      clear hs e1 e2 hQ hll hb cF hxs
      go_enter Tryz.func14, Tryz.ntmps14
      go_wp2_with fail
      obtain ⟨W0, hW0⟩ : ∃ W0, w.alloc (.cells zeroF.cells 26) = W0 := ⟨_, rfl⟩
      have hb0 : Below w.heap.size w W0 := by rw [← hW0]; exact (Below.refl _ _).alloc (Nat.le_refl _) _
      have hv0 : VAt W0 w.heap.size zeroF.cells.toList := by rw [← hW0]; exact vat_alloc w _ _
      have hs0 : w.heap.size < W0.heap.size := by rw [← hW0]; simp
      unfold zeroF Fr.cells at hW0
      simp only [BitVec.toNat_ofNat, Nat.zero_mod, Int.natCast_zero] at hW0
      rw [hW0]
      clear hW0
      have keep0 := Below.refl W0.heap.size W0
      have keep1 := keep W0
      go_region_held3 (fun W => Below W0.heap.size W0 W) (first | exact keep0 | exact keep1 _ keep0 | exact chain ‹_› ‹_› | assumption) (first | (go_at_call 29; (with_reducible refine (cS.out _).mono ?_); rintro e w9 ⟨rfl, hb9⟩))
      rename_i hbe
      have hv1 := hv0.below hbe hs0
      obtain ⟨⟨f0, f1, f2, f3, f4, f5, f6, f7, f8⟩, ⟨g0, g1, g2, g3, g4, g5, g6, g7, g8⟩⟩ := nine_of hv1
      have hput := Lib.hid (nine_of (f := zeroF) (putN_all (l := zeroF.cells.toList) hv1 rfl)).1
      have hbel := Lib.hid (putN_below (Nat.le_refl _) zeroF.cells.toList 0 _ (chain hb0 hbe))
      unfold zeroF at f0 f1 f2 f3 f4 f5 f6 f7 f8
      dsimp only at f0 f1 f2 f3 f4 f5 f6 f7 f8
      clear hv0 hv1 keep0 keep1 keep
      go_wp2
      obtain ⟨W5, hW5⟩ : ∃ W5, putN w.heap.size w9 0 zeroF.cells.toList = W5 := ⟨_, rfl⟩
      rw [hW5] at hput hbel
      unfold zeroF Fr.cells at hW5
      simp only [putN, BitVec.toNat_ofNat, Nat.zero_mod, Int.natCast_zero] at hW5
      rw [hW5]
      obtain ⟨c0, c1, c2, c3, c4, c5, c6, c7, c8⟩ := hput.out
      refine bodyPost_ret (v := .tuple #[zeroF.val, .int .i64 5]) ?_ rfl ⟨rfl, hbel.out⟩
      simp [results, Tryz.results14, go_sem, c0, c1, c2, c3, c4, c5, c6, c7, c8]
      rfl
  · have t1 : ((b.size : Int) != 44) = true := by rw [bne_iff_ne]; omega
    obtain ⟨e1, e2⟩ := unE_len (l := b.data.toList) (by omega)
    rw [e1, e2]
    clear h44 hll e1 e2
    go_enter Tryz.func14, Tryz.ntmps14
    go_wp2
    refine bodyPost_ret (v := .tuple #[zeroF.val, .int .i64 4]) ?_ rfl ⟨rfl, ?_⟩
    · simp [results, Tryz.results14, go_sem]
      rfl
    · exact (Below.refl _ _).alloc (Nat.le_refl _) _
end Go.Proofs.YtgpdfkallgjocaaGreatDoor.F13
namespace Go.Proofs.YtgpdfkallgjocaaGreatDoor.F13
set_option maxRecDepth 100000
open Go.RowKit Mem
set_option linter.unusedVariables false
set_option linter.unusedSimpArgs false

/-! ### what stays while a quality's cells are written -/
structure Keeps (Q : Nat) (w w' : World) : Prop where
  row : ∀ A l, A ≠ Q → A < w.heap.size → VAt w A l → VAt w' A l
  size : w.heap.size ≤ w'.heap.size
  below : ∀ B w0, B ≤ Q → Below B w0 w → Below B w0 w'
theorem Keeps.refl (Q : Nat) (w : World) : Keeps Q w w := ⟨fun _ _ _ _ h => h, Nat.le_refl _, fun _ _ _ h => h⟩
theorem Keeps.trans {Q : Nat} {w w1 w2 : World} (h : Keeps Q w w1) (k : Keeps Q w1 w2) : Keeps Q w w2 :=
  ⟨fun A l ha hs hv => k.row A l ha (Nat.lt_of_lt_of_le hs h.size) (h.row A l ha hs hv), Nat.le_trans h.size k.size, fun B w0 hB hb => k.below B w0 hB (h.below B w0 hB hb)⟩
theorem Keeps.of_below {Q : Nat} {w w' : World} (hQ : Q < w.heap.size) (h : Below w.heap.size w w') : Keeps Q w w' :=
  ⟨fun A l _ hs hv => hv.below h hs, h.size, fun B w0 hB hb => hb.trans (h.mono (by omega))⟩
theorem Keeps.set {Q : Nat} (w : World) (k : Nat) (v : Value) : Keeps Q w (w.setCell ⟨Q, k, none⟩ v) :=
  ⟨fun A l ha _ hv => hv.far (Ne.symm ha) v, by simp, fun B w0 hB hb => hb.setCell (p := ⟨Q, k, none⟩) hB v⟩

/-! ### the states -/
theorem byB_sz {X : ByteArray} (hs : X.size = 836) (he : V10.eB X = 0) : (byB X).size = 52 ∧ (V10.dS X).size = 416 := by
  obtain ⟨g, hg⟩ := V10.good he (n := 416) hs
  have h1 : (V10.dS X).size = 416 := by rw [hg.str, C9.sb_size, hg.len]
  refine ⟨?_, h1⟩
  show (C1.tbS (V10.dS X).data.toList).length = 52
  have hl : (V10.dS X).data.toList.length = 416 := by simpa using h1
  have h : C1.tbE (V10.dS X).data.toList = 0 := C1.tbE_ok (by rw [chk_okC, hg.str]; exact C9.okC_sb _) (by rw [hl])
  rw [C1.tbS_ok h, C1.toB_len, hl]
theorem byE {X : ByteArray} (hs : X.size = 836) (he : V10.eB X = 0) : C1.tbE (V10.dS X).data.toList = 0 := by
  obtain ⟨g, hg⟩ := V10.good he (n := 416) hs
  have h1 : (V10.dS X).size = 416 := by rw [hg.str, C9.sb_size, hg.len]
  have hl : (V10.dS X).data.toList.length = 416 := by simpa using h1
  exact C1.tbE_ok (by rw [chk_okC, hg.str]; exact C9.okC_sb _) (by rw [hl])
theorem dec_sz {u : List G5.R} {S : ByteArray} {m : Int} (h : G8.DecQ u 8 [] S m 0) : S.size = u.length := by
  by_cases hb : G8.Bad u.length 8 []
  · obtain ⟨_, _, e⟩ := h.1 hb
    cases e
  · by_cases hc : ∃ c, G8.Within (8 : Int).toNat u (G8.Lof []) c
    · obtain ⟨c, hc⟩ := hc
      obtain ⟨rfl, _, _⟩ := (h.2 hb).1 c hc
      rw [G7.size_str, hc.len]
    · obtain ⟨_, _, e⟩ := (h.2 hb).2 (fun c h => hc ⟨c, h⟩)
      cases e
def padB (c : ByteArray) : ByteArray := ⟨(padL c.data.toList).toArray⟩
theorem unr_dl (l : List UInt8) : C1.unr (I11.dl 8 l) = C1.unr l := by
  have h := I11.perm_il (r := 8) (by decide) (I11.dl 8 l)
  rw [I11.il_dl (by decide)] at h
  exact (h.filter _).length_eq.symm
def StD (c : ByteArray) : Nat → ByteArray → Int → Int → Int → Prop
  | 0, s, d, u, n => s = c ∧ d = 0 ∧ u = 0 ∧ n = 0
  | 1, s, d, u, n => s = padB c ∧ d = 0 ∧ u = 0 ∧ n = 0
  | 2, s, d, u, n => s = xB c ∧ d = 0 ∧ u = (C1.unr (xB c).data.toList : Int) ∧ n = 0
  | 3, s, d, u, n => s = V10.dS (xB c) ∧ d = V10.dN (xB c) ∧ u = (C1.unr (xB c).data.toList : Int) ∧ n = 0
  | 4, s, d, u, n => s = byB (xB c) ∧ d = V10.dN (xB c) ∧ u = (C1.unr (xB c).data.toList : Int) ∧ n = 0
  | 5, s, d, u, n => G8.DecQ (G7.el (byB (xB c))) 8 [] s n 0 ∧ d = V10.dN (xB c) ∧ u = (C1.unr (xB c).data.toList : Int)
  | _, s, d, u, n => ∃ S, G8.DecQ (G7.el (byB (xB c))) 8 [] S n 0 ∧ s = S.extract 0 44 ∧ d = V10.dN (xB c) ∧ u = (C1.unr (xB c).data.toList : Int)
def QAt (w : World) (Q : Nat) (d u n : Int) : Prop := VAt w Q [.int .i64 d, .int .i64 u, .int .i64 n]
def StepD (c : ByteArray) (Q k : Nat) (w : World) (e : Ending) (w' : World) : Prop := ∃ s d u n, StD c (k + 1) s d u n ∧ e = .returned (.tuple #[.string s, .int .i64 0]) ∧ QAt w' Q d u n ∧ Keeps Q w w'
def NoD (c : ByteArray) (Q : Nat) (w : World) (e : Ending) (w' : World) : Prop := ∃ S T d u n j, j ≠ 0 ∧ G8.DecQ (G7.el (byB (xB c))) 8 [] S n j ∧ e = .returned (.tuple #[.string T, .int .i64 j]) ∧ QAt w' Q d u n ∧ Keeps Q w w'

/-! ### the steps -/
theorem rep63 : ∀ n : Nat, Lib.repeatL (ByteArray.mk #[63]).data.toList n = List.replicate n 63
  | 0 => rfl
  | n + 1 => by
    show [63] ++ Lib.repeatL (ByteArray.mk #[63]).data.toList n = _
    rw [rep63 n]
    rfl
set_option maxHeartbeats 4000000 in
theorem completed_own (c : ByteArray) (w : World) (hk : C1.chk c.data.toList = 0) (hs : c.size ≤ 836) : Calls Tryz.prog 81 #[.string c] w fun e w' => e = .returned (.tuple #[.string (padB c), .int .i64 0]) ∧ Below w.heap.size w w' := by
  have cK := fun W => C1.check_any c W (by omega)
  rw [hk] at cK
  obtain ⟨m, hm⟩ : ∃ m, 836 - c.size = m := ⟨_, rfl⟩
  have cR := fun W => Tryz.strings_Repeat ⟨#[63]⟩ m W (by omega) (by show 1 * m ≤ _; omega)
  have hpad : c ++ ⟨(Lib.repeatL (ByteArray.mk #[63]).data.toList m).toArray⟩ = padB c := str_eq (by
    rw [app_list, rep63]
    show c.data.toList ++ List.replicate m 63 = padL c.data.toList
    unfold padL
    rw [show c.data.toList.length = c.size by simp, hm])
  have hrs : (⟨(Lib.repeatL (ByteArray.mk #[63]).data.toList m).toArray⟩ : ByteArray).size = m := by
    rw [rep63]
    show (List.replicate m (63 : UInt8)).length = m
    simp
  obtain ⟨R, hR⟩ : ∃ R : ByteArray, ⟨(Lib.repeatL (ByteArray.mk #[63]).data.toList m).toArray⟩ = R := ⟨_, rfl⟩
  rw [hR] at cR hpad hrs
  obtain ⟨D, hD⟩ : ∃ D, padB c = D := ⟨_, rfl⟩
  rw [hD] at hpad ⊢
  replace cK := Lib.hid cK
  replace cR := Lib.hid cR
  have d1 : decide ((836 : Int) < (c.size : Int)) = false := decide_eq_false (by omega)
  have m1 : (836 : Int) - (c.size : Int) = (m : Int) := by omega
  have s1 : (c.size : Int) ≤ 836 := by omega
  have s2 : (R.size : Int) ≤ 836 := by omega
  have s3 : ¬ 9223372036854775807 < c.size + R.size := by omega
  clear hR hD hrs hm hk
  go_enter Tryz.func81, Tryz.ntmps81
  go_wp2_with fail
  refine (cK.out _).mono ?_
  rintro e w1 ⟨rfl, rfl⟩
  go_wp2_with fail
  refine (cR.out _).mono ?_
  rintro e w2 ⟨rfl, hb⟩
  go_wp2
  go_ret2
  exact ⟨rfl, hb⟩
set_option maxHeartbeats 4000000 in
theorem completed_no (c : ByteArray) (w : World) (hc : c.size ≤ 1000000) (k : Int) (h : (C1.chk c.data.toList = 3 ∧ k = 3) ∨ (C1.chk c.data.toList = 0 ∧ 836 < c.size ∧ k = 6)) : Calls Tryz.prog 81 #[.string c] w fun e w' => e = .returned (.tuple #[.string ⟨#[]⟩, .int .i64 k]) ∧ w = w' := by
  have cK := Lib.hid (fun W => C1.check_any c W (by omega))
  rcases h with ⟨h, rfl⟩ | ⟨h, hs, rfl⟩
  · rw [h] at cK
    clear h
    go_enter Tryz.func81, Tryz.ntmps81
    go_wp2_with (go_at_call 126; refine (cK.out _).mono ?_; rintro e w1 ⟨rfl, rfl⟩)
    go_ret2
    exact ⟨rfl, rfl⟩
  · rw [h] at cK
    have d1 : decide ((836 : Int) < (c.size : Int)) = true := decide_eq_true (by omega)
    clear h hs
    go_enter Tryz.func81, Tryz.ntmps81
    go_wp2_with (go_at_call 126; refine (cK.out _).mono ?_; rintro e w1 ⟨rfl, rfl⟩)
    go_ret2
    exact ⟨rfl, rfl⟩
set_option maxHeartbeats 4000000 in
theorem inner_own (X : ByteArray) (w : World) (hs : X.size = 836) (ho : X.data.toList.all C9.okC = true) : Calls Tryz.prog 85 #[.string X] w fun e w' => e = .returned (.tuple #[.string (V10.dS X), .int .i64 (V10.dN X), .int .i64 0]) ∧ Below w.heap.size w w' := by
  have cE := fun W => C9.extract_own X W (by omega)
  have cV := fun W => V10.decode_own X W (by omega)
  have hed := fun S k h hk => ext_dec hs ho (S := S) (k := k) h hk
  unfold V10.Deco at cV
  rw [V10.eB_ok ho (n := 416) hs] at cV
  replace cE := Lib.hid cE
  replace cV := Lib.hid cV
  replace hed := Lib.hid hed
  obtain ⟨D, hD⟩ : ∃ D, V10.dS X = D := ⟨_, rfl⟩
  obtain ⟨n, hn⟩ : ∃ n, V10.dN X = n := ⟨_, rfl⟩
  rw [hD, hn] at cV ⊢
  replace hed : Hid (∀ S k, C9.ExtQ X S k → k = 0 → D = S ∧ n = 0) := Lib.hid (fun S k h hk => by have := hed.out S k h hk; rw [hD, hn] at this; exact this)
  clear hD hn hs ho
  go_enter Tryz.func85, Tryz.ntmps85
  go_wp2_with fail
  refine (cE.out _).mono ?_
  rintro e w1 ⟨S, k, hE, rfl, hb⟩
  by_cases hk : k = 0
  · obtain ⟨rfl, rfl⟩ := hed.out S k hE hk
    subst hk
    clear hE
    go_wp2
    go_ret3
    exact ⟨rfl, hb⟩
  · have d1 : (k == 0) = false := beq_eq_false_iff_ne.2 hk
    clear hE hk
    go_wp2_with fail
    refine (cV.out _).mono ?_
    rintro e w2 ⟨rfl, hb2⟩
    go_wp2
    go_ret3
    exact ⟨rfl, chain hb hb2⟩
end Go.Proofs.YtgpdfkallgjocaaGreatDoor.F13
namespace Go.Proofs.YtgpdfkallgjocaaGreatDoor.F13
set_option maxRecDepth 100000
open Go.RowKit Mem
set_option linter.unusedVariables false
set_option linter.unusedSimpArgs false

theorem QAt.set0 {w : World} {Q : Nat} {d u n : Int} (h : QAt w Q d u n) (v : Int) : QAt (w.setCell ⟨Q, 0, none⟩ (.int .i64 v)) Q v u n := VAt.set h (k := 0) (show 0 < 3 by decide) (.int .i64 v)
theorem QAt.set1 {w : World} {Q : Nat} {d u n : Int} (h : QAt w Q d u n) (v : Int) : QAt (w.setCell ⟨Q, 1, none⟩ (.int .i64 v)) Q d v n := VAt.set h (k := 1) (show 1 < 3 by decide) (.int .i64 v)
theorem QAt.set2 {w : World} {Q : Nat} {d u n : Int} (h : QAt w Q d u n) (v : Int) : QAt (w.setCell ⟨Q, 2, none⟩ (.int .i64 v)) Q d u v := VAt.set h (k := 2) (show 2 < 3 by decide) (.int .i64 v)
theorem QAt.below {w w' : World} {Q : Nat} {d u n : Int} (h : QAt w Q d u n) (hQ : Q < w.heap.size) (k : Below w.heap.size w w') : QAt w' Q d u n := VAt.below h k hQ
theorem stepD0 {c s : ByteArray} {Q : Nat} {d u n : Int} (w : World) (hk : C1.chk c.data.toList = 0) (hs : c.size ≤ 836) (hQ : Q < w.heap.size) (hq : QAt w Q d u n) (h : StD c 0 s d u n) : Calls Tryz.prog 81 #[.string s] w (StepD c Q 0 w) := by
  obtain ⟨rfl, rfl, rfl, rfl⟩ := h
  refine (completed_own s w hk hs).mono ?_
  rintro e w' ⟨rfl, hb⟩
  exact ⟨_, _, _, _, ⟨rfl, rfl, rfl, rfl⟩, rfl, hq.below hQ hb, Keeps.of_below hQ hb⟩
set_option maxHeartbeats 4000000 in
theorem stepD1 {c s : ByteArray} {Q : Nat} {d u n : Int} (w : World) (hs : c.size ≤ 836) (hQ : Q < w.heap.size) (hq : QAt w Q d u n) (h : StD c 1 s d u n) : Calls Tryz.prog 82 #[.string s, .pointer (some ⟨Q, 0, none⟩)] w (StepD c Q 1 w) := by
  obtain ⟨rfl, rfl, rfl, rfl⟩ := h
  have hl : (padL c.data.toList).length = 836 := padL_len (by simpa using hs)
  have hps : (padB c).size = 836 := hl
  have cU := fun W => C1.unreadable_any (padB c) W (by omega)
  have hu : C1.unr (padB c).data.toList = C1.unr (xB c).data.toList := (unr_dl (padL c.data.toList)).symm
  rw [hu] at cU
  have cI := fun W' => I11.dl_own (padB c) 8 W' (by omega) (by decide) (by decide)
  have hiS : I11.dS (padB c) 8 = xB c := rfl
  unfold I11.Dled at cI
  rw [hiS, show I11.pE 8 = 0 from rfl] at cI
  have hgo : ∀ w', QAt w' Q 0 (C1.unr (xB c).data.toList : Int) 0 → Keeps Q w w' → StepD c Q 1 w (.returned (.tuple #[.string (xB c), .int .i64 0])) w' := fun w' h1 h2 => ⟨_, _, _, _, ⟨rfl, rfl, rfl, rfl⟩, rfl, h1, h2⟩
  obtain ⟨U, hU⟩ : ∃ U, C1.unr (xB c).data.toList = U := ⟨_, rfl⟩
  obtain ⟨X, hX⟩ : ∃ U, xB c = U := ⟨_, rfl⟩
  obtain ⟨s, hss⟩ : ∃ U, padB c = U := ⟨_, rfl⟩
  rw [hU] at cU hgo
  rw [hX] at cI hgo
  rw [hss] at cU cI ⊢
  obtain ⟨q0, q1, q2, z0, z1, z2⟩ := cells3 hq
  have hq1 := hq.set1 (U : Int)
  have hk1 : Keeps Q w (w.setCell ⟨Q, 1, none⟩ (.int .i64 (U : Int))) := Keeps.set w 1 _
  have hs1 : Q < (w.setCell ⟨Q, 1, none⟩ (.int .i64 (U : Int))).heap.size := by simpa using hQ
  obtain ⟨W1, hW1⟩ : ∃ W, w.setCell ⟨Q, 1, none⟩ (.int .i64 (U : Int)) = W := ⟨_, rfl⟩
  rw [hW1] at hq1 hk1 hs1
  obtain ⟨P, hP⟩ : ∃ P, StepD c Q 1 w = P := ⟨_, rfl⟩
  rw [hP] at hgo ⊢
  show Calls _ _ _ _ (fun e w' => P e w')
  replace cU := Lib.hid cU
  replace cI := Lib.hid cI
  replace hgo := Lib.hid hgo
  replace hq1 := Lib.hid hq1
  replace hk1 := Lib.hid hk1
  replace hs1 := Lib.hid hs1
  clear hP hU hX hss hu hiS hps hl hQ hq
  go_enter Tryz.func82, Tryz.ntmps82
  go_wp2_with fail
  refine (cU.out _).mono ?_
  rintro e w1 ⟨rfl, rfl⟩
  go_wp2_with fail
  refine (cI.out _).mono ?_
  rintro e w2 ⟨rfl, hb⟩
  have hfin := Lib.hid (hgo.out w2 (hq1.out.below hs1.out hb) (hk1.out.trans (Keeps.of_below hs1.out hb)))
  go_wp2
  first | go_ret2 | skip
  exact hfin.out
set_option maxHeartbeats 4000000 in
theorem stepD2 {c s : ByteArray} {Q : Nat} {d u n : Int} (w : World) (hk : C1.chk c.data.toList = 0) (hs : c.size ≤ 836) (hQ : Q < w.heap.size) (hq : QAt w Q d u n) (h : StD c 2 s d u n) : Calls Tryz.prog 84 #[.string s, .pointer (some ⟨Q, 0, none⟩)] w (StepD c Q 2 w) := by
  obtain ⟨rfl, rfl, rfl, rfl⟩ := h
  have cI := fun W => inner_own (xB c) W (xB_size hs) (xB_ok hk)
  have hgo : ∀ w', QAt w' Q (V10.dN (xB c)) (C1.unr (xB c).data.toList : Int) 0 → Keeps Q w w' → StepD c Q 2 w (.returned (.tuple #[.string (V10.dS (xB c)), .int .i64 0])) w' := fun w' h1 h2 => ⟨_, _, _, _, ⟨rfl, rfl, rfl, rfl⟩, rfl, h1, h2⟩
  obtain ⟨U, hU⟩ : ∃ U, C1.unr (xB c).data.toList = U := ⟨_, rfl⟩
  obtain ⟨D, hD⟩ : ∃ U, V10.dN (xB c) = U := ⟨_, rfl⟩
  obtain ⟨S, hS⟩ : ∃ U, V10.dS (xB c) = U := ⟨_, rfl⟩
  obtain ⟨X, hX⟩ : ∃ U, xB c = U := ⟨_, rfl⟩
  rw [hU] at hq
  rw [hU, hD, hS] at hgo
  rw [hD, hS, hX] at cI
  rw [hX]
  have hQh := Lib.hid hQ
  have hqh := Lib.hid hq
  obtain ⟨P, hP⟩ : ∃ P, StepD c Q 2 w = P := ⟨_, rfl⟩
  rw [hP] at hgo ⊢
  show Calls _ _ _ _ (fun e w' => P e w')
  replace cI := Lib.hid cI
  replace hgo := Lib.hid hgo
  clear hP hU hD hS hX hQ hq hs hk
  go_enter Tryz.func84, Tryz.ntmps84
  go_wp2_with fail
  refine (cI.out _).mono ?_
  rintro e w1 ⟨rfl, hb⟩
  have hq1 := hqh.out.below hQh.out hb
  obtain ⟨q0, q1, q2, z0, z1, z2⟩ := cells3 hq1
  have hq2 := hq1.set0 D
  have hk2 : Keeps Q w (w1.setCell ⟨Q, 0, none⟩ (.int .i64 D)) := (Keeps.of_below hQh.out hb).trans (Keeps.set w1 0 _)
  have hfin := Lib.hid (hgo.out _ hq2 hk2)
  clear hq1 hq2 hk2 hgo hb
  go_wp2
  first | go_ret2 | skip
  exact hfin.out
set_option maxHeartbeats 4000000 in
theorem stepD3 {c s : ByteArray} {Q : Nat} {d u n : Int} (w : World) (hk : C1.chk c.data.toList = 0) (hs : c.size ≤ 836) (hQ : Q < w.heap.size) (hq : QAt w Q d u n) (h : StD c 3 s d u n) : Calls Tryz.prog 86 #[.string s] w (StepD c Q 3 w) := by
  obtain ⟨rfl, rfl, rfl, rfl⟩ := h
  have hX := xB_size hs
  have hXe := xB_eB hk hs
  have cT := fun W => C1.toBytes_any (V10.dS (xB c)) W (by rw [(byB_sz hX hXe).2]; decide)
  unfold C1.TbPost at cT
  rw [byE hX hXe] at cT
  have hBY : (⟨(C1.tbS (V10.dS (xB c)).data.toList).toArray⟩ : ByteArray) = byB (xB c) := rfl
  rw [hBY] at cT
  have hgo : ∀ w', Below w.heap.size w w' → StepD c Q 3 w (.returned (.tuple #[.string (byB (xB c)), .int .i64 0])) w' := fun w' hb => ⟨_, _, _, _, ⟨rfl, rfl, rfl, rfl⟩, rfl, hq.below hQ hb, Keeps.of_below hQ hb⟩
  obtain ⟨B, hB⟩ : ∃ U, byB (xB c) = U := ⟨_, rfl⟩
  obtain ⟨S, hS⟩ : ∃ U, V10.dS (xB c) = U := ⟨_, rfl⟩
  rw [hB] at cT hgo
  rw [hS] at cT ⊢
  obtain ⟨P, hP⟩ : ∃ P, StepD c Q 3 w = P := ⟨_, rfl⟩
  rw [hP] at hgo ⊢
  show Calls _ _ _ _ (fun e w' => P e w')
  replace cT := Lib.hid cT
  replace hgo := Lib.hid hgo
  clear hP hB hS hX hXe hBY hQ hq hs hk
  go_enter Tryz.func86, Tryz.ntmps86
  go_wp2_with fail
  refine (cT.out _).mono ?_
  rintro e w1 ⟨v, rfl, hown, hb⟩
  have hfin := Lib.hid (hgo.out w1 hb)
  clear hown hgo hb
  go_wp2
  first | go_ret2 | skip
  exact hfin.out
set_option maxHeartbeats 4000000 in
theorem stepD4 {c s : ByteArray} {Q : Nat} {d u n : Int} (w : World) (hk : C1.chk c.data.toList = 0) (hs : c.size ≤ 836) (hQ : Q < w.heap.size) (hq : QAt w Q d u n) (h : StD c 4 s d u n) : Calls Tryz.prog 88 #[.string s, .pointer (some ⟨Q, 0, none⟩)] w fun e w' => StepD c Q 4 w e w' ∨ NoD c Q w e w' := by
  obtain ⟨rfl, rfl, rfl, rfl⟩ := h
  have hX := xB_size hs
  have hXe := xB_eB hk hs
  have cR := fun W => G8.dec_own (s := byB (xB c)) (p := 8) (zs := []) (A := none) (n := 0) (c := 0) (w := W) (G8.IsInts.no W) rfl (by rw [(byB_sz hX hXe).1]; decide) (by decide) (by decide)
  have hgo : ∀ S m w', G8.DecQ (G7.el (byB (xB c))) 8 [] S m 0 → QAt w' Q (V10.dN (xB c)) (C1.unr (xB c).data.toList : Int) m → Keeps Q w w' → StepD c Q 4 w (.returned (.tuple #[.string S, .int .i64 0])) w' := fun S m w' h0 h1 h2 => ⟨_, _, _, _, ⟨h0, rfl, rfl⟩, rfl, h1, h2⟩
  have hgo2 : ∀ S m j w', G8.DecQ (G7.el (byB (xB c))) 8 [] S m j → j ≠ 0 → QAt w' Q (V10.dN (xB c)) (C1.unr (xB c).data.toList : Int) m → Keeps Q w w' → NoD c Q w (.returned (.tuple #[.string S, .int .i64 j])) w' := fun S m j w' h0 hj h1 h2 => ⟨S, S, _, _, _, j, hj, h0, rfl, h1, h2⟩
  unfold G8.Deco at cR
  obtain ⟨DQ, hDQ⟩ : ∃ U, G8.DecQ (G7.el (byB (xB c))) 8 [] = U := ⟨_, rfl⟩
  obtain ⟨U, hU⟩ : ∃ U, C1.unr (xB c).data.toList = U := ⟨_, rfl⟩
  obtain ⟨D, hD⟩ : ∃ U, V10.dN (xB c) = U := ⟨_, rfl⟩
  obtain ⟨B, hB⟩ : ∃ U, byB (xB c) = U := ⟨_, rfl⟩
  rw [hDQ] at cR hgo hgo2
  rw [hU] at hq hgo hgo2
  rw [hD] at hq hgo hgo2
  rw [hB] at cR ⊢
  have hQh := Lib.hid hQ
  have hqh := Lib.hid hq
  obtain ⟨P, hP⟩ : ∃ P, StepD c Q 4 w = P := ⟨_, rfl⟩
  obtain ⟨P2, hP2⟩ : ∃ P, NoD c Q w = P := ⟨_, rfl⟩
  rw [hP] at hgo ⊢
  rw [hP2] at hgo2 ⊢
  obtain ⟨P3, hP3⟩ : ∃ P3 : Ending → World → Prop, (fun e w' => P e w' ∨ P2 e w') = P3 := ⟨_, rfl⟩
  have g1 : Hid (∀ e w', P e w' → P3 e w') := Lib.hid (fun e w' h => by rw [← hP3]; exact .inl h)
  have g2 : Hid (∀ e w', P2 e w' → P3 e w') := Lib.hid (fun e w' h => by rw [← hP3]; exact .inr h)
  rw [hP3]
  show Calls _ _ _ _ (fun e w' => P3 e w')
  replace cR := Lib.hid cR
  replace hgo := Lib.hid hgo
  replace hgo2 := Lib.hid hgo2
  clear hP hP2 hP3 hDQ hU hD hB hX hXe hQ hq hs hk
  go_enter Tryz.func88, Tryz.ntmps88
  go_wp2_with fail
  refine (cR.out _).mono ?_
  rintro e w1 ⟨S, m, j, hD, rfl, hb⟩
  have hq1 := hqh.out.below hQh.out hb
  obtain ⟨q0, q1, q2, z0, z1, z2⟩ := cells3 hq1
  have hq2 := hq1.set2 m
  have hk2 : Keeps Q w (w1.setCell ⟨Q, 2, none⟩ (.int .i64 m)) := (Keeps.of_below hQh.out hb).trans (Keeps.set w1 2 _)
  have hfin : Hid (P3 (.returned (.tuple #[.string S, .int .i64 j])) (w1.setCell ⟨Q, 2, none⟩ (.int .i64 m))) := by
    by_cases hj : j = 0
    · subst hj
      exact Lib.hid (g1.out _ _ (hgo.out S m _ hD hq2 hk2))
    · exact Lib.hid (g2.out _ _ (hgo2.out S m j _ hD hj hq2 hk2))
  clear hq1 hq2 hk2 hgo hgo2 hb hD g1 g2
  go_wp2
  first | go_ret2 | skip
  exact hfin.out
theorem stepD5 {c s : ByteArray} {Q : Nat} {d u n : Int} (w : World) (hk : C1.chk c.data.toList = 0) (hs : c.size ≤ 836) (hQ : Q < w.heap.size) (hq : QAt w Q d u n) (h : StD c 5 s d u n) : Calls Tryz.prog 90 #[.string s] w (StepD c Q 5 w) := by
  obtain ⟨hD, rfl, rfl⟩ := h
  have h52 : s.size = 52 := by rw [dec_sz hD, G7.el_len, (byB_sz (xB_size hs) (xB_eB hk hs)).1]
  have hgo : StepD c Q 5 w (.returned (.tuple #[.string (s.extract 0 44), .int .i64 0])) w := ⟨_, _, _, _, ⟨s, hD, rfl, rfl, rfl⟩, rfl, hq, Keeps.refl _ _⟩
  have i1 : (44 : Int) ≤ (s.size : Int) := by omega
  have i2 : (s.size : Int) = 52 := by omega
  obtain ⟨P, hP⟩ : ∃ P, StepD c Q 5 w = P := ⟨_, rfl⟩
  rw [hP] at hgo ⊢
  show Calls _ _ _ _ (fun e w' => P e w')
  replace hgo := Lib.hid hgo
  clear hP hD hQ hq hs hk h52
  go_enter Tryz.func90, Tryz.ntmps90
  go_wp2
  first | go_ret2 | skip
  exact hgo.out
end Go.Proofs.YtgpdfkallgjocaaGreatDoor.F13
namespace Go.Proofs.YtgpdfkallgjocaaGreatDoor.F13
set_option maxRecDepth 100000
open Go.RowKit Mem
set_option linter.unusedVariables false
set_option linter.unusedSimpArgs false

def ApD (c : ByteArray) (Q : Nat) (w : World) (e : Ending) (w' : World) : Prop :=
  (∃ S n, G8.DecQ (G7.el (byB (xB c))) 8 [] S n 0 ∧ e = .returned (.tuple #[.string (S.extract 0 44), .int .i64 0]) ∧ QAt w' Q (V10.dN (xB c)) (C1.unr (xB c).data.toList : Int) n ∧ Keeps Q w w') ∨
  (∃ S d u n j, j ≠ 0 ∧ ∃ m, G8.DecQ (G7.el (byB (xB c))) 8 [] S m j ∧ e = .returned (.tuple #[.string ⟨#[]⟩, .int .i64 j]) ∧ QAt w' Q d u n ∧ Keeps Q w w')
def stepsD (Q : Nat) : List Value := [.func (.func 81) #[] #[], .func (.func 82) #[] #[.pointer (some ⟨Q, 0, none⟩)], .func (.func 84) #[] #[.pointer (some ⟨Q, 0, none⟩)], .func (.func 86) #[] #[], .func (.func 88) #[] #[.pointer (some ⟨Q, 0, none⟩)], .func (.func 90) #[] #[]]
set_option maxHeartbeats 8000000 in
theorem applyD {c : ByteArray} {A Q : Nat} (w : World) (hk0 : C1.chk c.data.toList = 0) (hc : c.size ≤ 836) (hA : VAt w A (stepsD Q)) (hs : A < w.heap.size) (hAQ : A ≠ Q) (hQ : Q < w.heap.size) (hq : QAt w Q 0 0 0) : Calls Tryz.prog 36 #[.string c, .slice (some ⟨A, 0, none⟩) 6 6] w (ApD c Q w) := by
  have rr := fun W (h : Keeps Q w W) => h.row A _ hAQ hs hA
  have r0 : ∀ W, Keeps Q w W → W.cell? ⟨A, 0, none⟩ = some (.func (.func 81) #[] #[]) := fun W h => ((rr W h) 0 (show 0 < 6 by decide)).1
  have r1 : ∀ W, Keeps Q w W → W.cell? ⟨A, 1, none⟩ = some (.func (.func 82) #[] #[.pointer (some ⟨Q, 0, none⟩)]) := fun W h => ((rr W h) 1 (show 1 < 6 by decide)).1
  have r2 : ∀ W, Keeps Q w W → W.cell? ⟨A, 2, none⟩ = some (.func (.func 84) #[] #[.pointer (some ⟨Q, 0, none⟩)]) := fun W h => ((rr W h) 2 (show 2 < 6 by decide)).1
  have r3 : ∀ W, Keeps Q w W → W.cell? ⟨A, 3, none⟩ = some (.func (.func 86) #[] #[]) := fun W h => ((rr W h) 3 (show 3 < 6 by decide)).1
  have r4 : ∀ W, Keeps Q w W → W.cell? ⟨A, 4, none⟩ = some (.func (.func 88) #[] #[.pointer (some ⟨Q, 0, none⟩)]) := fun W h => ((rr W h) 4 (show 4 < 6 by decide)).1
  have r5 : ∀ W, Keeps Q w W → W.cell? ⟨A, 5, none⟩ = some (.func (.func 90) #[] #[]) := fun W h => ((rr W h) 5 (show 5 < 6 by decide)).1
  have hszW : ∀ W, Keeps Q w W → Q < W.heap.size := fun W h => Nat.lt_of_lt_of_le hQ h.size
  replace r0 := Lib.hid r0
  replace r1 := Lib.hid r1
  replace r2 := Lib.hid r2
  replace r3 := Lib.hid r3
  replace r4 := Lib.hid r4
  replace r5 := Lib.hid r5
  replace hszW := Lib.hid hszW
  have c0 := Lib.hid (fun s d u n W hQ hq h => stepD0 (c := c) (s := s) (Q := Q) (d := d) (u := u) (n := n) W hk0 hc hQ hq h)
  have c1 := Lib.hid (fun s d u n W hQ hq h => stepD1 (c := c) (s := s) (Q := Q) (d := d) (u := u) (n := n) W hc hQ hq h)
  have c2 := Lib.hid (fun s d u n W hQ hq h => stepD2 (c := c) (s := s) (Q := Q) (d := d) (u := u) (n := n) W hk0 hc hQ hq h)
  have c3 := Lib.hid (fun s d u n W hQ hq h => stepD3 (c := c) (s := s) (Q := Q) (d := d) (u := u) (n := n) W hk0 hc hQ hq h)
  have c4 := Lib.hid (fun s d u n W hQ hq h => stepD4 (c := c) (s := s) (Q := Q) (d := d) (u := u) (n := n) W hk0 hc hQ hq h)
  have c5 := Lib.hid (fun s d u n W hQ hq h => stepD5 (c := c) (s := s) (Q := Q) (d := d) (u := u) (n := n) W hk0 hc hQ hq h)
  have hgo : ∀ s d u n w', StD c 6 s d u n → QAt w' Q d u n → Keeps Q w w' → ApD c Q w (.returned (.tuple #[.string s, .int .i64 0])) w' := fun s d u n w' h1 h2 h3 => by
    obtain ⟨S, h, rfl, rfl, rfl⟩ := h1
    exact .inl ⟨S, n, h, rfl, h2, h3⟩
  have hno : ∀ W e' w' T j, Keeps Q w W → NoD c Q W e' w' → e' = .returned (.tuple #[.string T, .int .i64 j]) → ApD c Q w (.returned (.tuple #[.string ⟨#[]⟩, .int .i64 j])) w' ∧ j ≠ 0 := fun W e' w' T j h0 h1 h2 => by
    obtain ⟨S, T', d, u, n, j', hj, hD, rfl, hq, hk⟩ := h1
    injection h2 with h2
    injection h2 with h2
    have e1 : j' = j := by
      have := congrArg (fun a => a[1]?) h2
      simpa using this
    subst e1
    exact ⟨.inr ⟨S, d, u, n, j', hj, n, hD, rfl, hq, h0.trans hk⟩, hj⟩
  replace hgo := Lib.hid hgo
  replace hno := Lib.hid hno
  have hst0 : Hid (StD c 0 c 0 0 0) := Lib.hid ⟨rfl, rfl, rfl, rfl⟩
  obtain ⟨P, hP⟩ : ∃ P, ApD c Q w = P := ⟨_, rfl⟩
  rw [hP] at hgo hno ⊢
  show Calls _ _ _ _ (fun e w' => P e w')
  replace hq := Lib.hid hq
  clear hP hA hs hAQ hQ rr hc hk0
  go_enter Tryz.func36, Tryz.ntmps36
  go_wp2
  go_loopw [0, 11] (fun sv iv wr => ∃ (k : Nat) (s : ByteArray) (d u n : Int), k ≤ 6 ∧ iv = .int .i64 (k : Int) ∧ sv = .string s ∧ Hid (StD c k s d u n) ∧ Hid (QAt wr Q d u n) ∧ Hid (Keeps Q w wr)) (fun _ iv _ => 6 - (intOf iv).toNat)
  case atStart => exact ⟨0, c, 0, 0, 0, by decide, rfl, rfl, hst0, hq, Lib.hid (Keeps.refl _ _)⟩
  case round =>
    obtain ⟨k, s, d, u, n, hk, rfl, rfl, hst, hqq, hb⟩ := hrel
    clear hq hst0
    rcases k with _ | _ | _ | _ | _ | _ | k
    · have l0 := r0.out wr hb.out
      have cS := Lib.hid (c0.out s d u n wr (hszW.out wr hb.out) hqq.out hst.out)
      go_wp2_with fail
      refine cS.out.mono ?_
      rintro e w1 ⟨s', d', u', n', hs', rfl, hq', hk'⟩
      replace hs' := Lib.hid hs'
      replace hq' := Lib.hid hq'
      have hb2 := Lib.hid (hb.out.trans hk')
      clear hst hb l0 hk' cS hqq
      go_wp2
      go_roundw
      case rel => exact ⟨1, s', d', u', n', by decide, by go_num, rfl, hs', hq', hb2⟩
      case measure => simp [intOf]
    · have l0 := r1.out wr hb.out
      have cS := Lib.hid (c1.out s d u n wr (hszW.out wr hb.out) hqq.out hst.out)
      go_wp2_with fail
      refine cS.out.mono ?_
      rintro e w1 ⟨s', d', u', n', hs', rfl, hq', hk'⟩
      replace hs' := Lib.hid hs'
      replace hq' := Lib.hid hq'
      have hb2 := Lib.hid (hb.out.trans hk')
      clear hst hb l0 hk' cS hqq
      go_wp2
      go_roundw
      case rel => exact ⟨2, s', d', u', n', by decide, by go_num, rfl, hs', hq', hb2⟩
      case measure => simp [intOf]
    · have l0 := r2.out wr hb.out
      have cS := Lib.hid (c2.out s d u n wr (hszW.out wr hb.out) hqq.out hst.out)
      go_wp2_with fail
      refine cS.out.mono ?_
      rintro e w1 ⟨s', d', u', n', hs', rfl, hq', hk'⟩
      replace hs' := Lib.hid hs'
      replace hq' := Lib.hid hq'
      have hb2 := Lib.hid (hb.out.trans hk')
      clear hst hb l0 hk' cS hqq
      go_wp2
      go_roundw
      case rel => exact ⟨3, s', d', u', n', by decide, by go_num, rfl, hs', hq', hb2⟩
      case measure => simp [intOf]
    · have l0 := r3.out wr hb.out
      have cS := Lib.hid (c3.out s d u n wr (hszW.out wr hb.out) hqq.out hst.out)
      go_wp2_with fail
      refine cS.out.mono ?_
      rintro e w1 ⟨s', d', u', n', hs', rfl, hq', hk'⟩
      replace hs' := Lib.hid hs'
      replace hq' := Lib.hid hq'
      have hb2 := Lib.hid (hb.out.trans hk')
      clear hst hb l0 hk' cS hqq
      go_wp2
      go_roundw
      case rel => exact ⟨4, s', d', u', n', by decide, by go_num, rfl, hs', hq', hb2⟩
      case measure => simp [intOf]
    · have l0 := r4.out wr hb.out
      have cS := Lib.hid (c4.out s d u n wr (hszW.out wr hb.out) hqq.out hst.out)
      go_wp2_with fail
      refine cS.out.mono ?_
      rintro e w1 (⟨s', d', u', n', hs', rfl, hq', hk'⟩ | h)
      · replace hs' := Lib.hid hs'
        replace hq' := Lib.hid hq'
        have hb2 := Lib.hid (hb.out.trans hk')
        clear hst hb l0 hk' cS hqq
        go_wp2
        go_roundw
        case rel => exact ⟨5, s', d', u', n', by decide, by go_num, rfl, hs', hq', hb2⟩
        case measure => simp [intOf]
      · obtain ⟨T, j, he⟩ : ∃ T j, e = .returned (.tuple #[.string T, .int .i64 j]) := by
          obtain ⟨S, T, d, u, n, j, hj, hD, rfl, hq, hk⟩ := h
          exact ⟨T, j, rfl⟩
        obtain ⟨hf, hj⟩ := hno.out wr e w1 T j hb.out h he
        subst he
        have d1 : (j != 0) = true := bne_iff_ne.2 hj
        replace hf := Lib.hid hf
        clear hst hb l0 cS hqq h hj hgo hno
        go_wp2
        first | go_ret2 | skip
        exact hf.out
    · have l0 := r5.out wr hb.out
      have cS := Lib.hid (c5.out s d u n wr (hszW.out wr hb.out) hqq.out hst.out)
      go_wp2_with fail
      refine cS.out.mono ?_
      rintro e w1 ⟨s', d', u', n', hs', rfl, hq', hk'⟩
      replace hs' := Lib.hid hs'
      replace hq' := Lib.hid hq'
      have hb2 := Lib.hid (hb.out.trans hk')
      clear hst hb l0 hk' cS hqq
      go_wp2
      go_roundw
      case rel => exact ⟨6, s', d', u', n', by decide, by go_num, rfl, hs', hq', hb2⟩
      case measure => simp [intOf]
    · obtain rfl : k = 0 := by omega
      have hf := Lib.hid (hgo.out s d u n wr hst.out hqq.out hb.out)
      clear hst hb hgo hqq
      go_wp2
      first | go_ret2 | skip
      exact hf.out
end Go.Proofs.YtgpdfkallgjocaaGreatDoor.F13
namespace Go.Proofs.YtgpdfkallgjocaaGreatDoor.F13
set_option maxRecDepth 100000
open Go.RowKit Mem
set_option linter.unusedVariables false
set_option linter.unusedSimpArgs false

def DmR (c T : ByteArray) (d u n j : Int) : Prop :=
  (j = 0 → ∃ S : ByteArray, S.size = 52 ∧ T = S.extract 0 44 ∧ (unE (S.data.toList.take 44) ≠ 0 → DcQ c zeroF 0 0 0 (unE (S.data.toList.take 44))) ∧ (unE (S.data.toList.take 44) = 0 → DcQ c (unF (S.data.toList.take 44)) d u n 0)) ∧
  (j ≠ 0 → DcQ c zeroF 0 0 0 j)
def ApR (c : ByteArray) (Q : Nat) (w : World) (e : Ending) (w' : World) : Prop := ∃ T d u n j, DmR c T d u n j ∧ e = .returned (.tuple #[.string T, .int .i64 j]) ∧ QAt w' Q d u n ∧ Keeps Q w w'
theorem apR_good {c : ByteArray} {Q : Nat} {w w' : World} {e : Ending} (hk0 : C1.chk c.data.toList = 0) (hc : c.size ≤ 836) (h : ApD c Q w e w') : ApR c Q w e w' := by
  have hdc : ∀ F d u n k, InQ (xB c) F d u n k → DcQ c F d u n k := fun F d u n k h => ⟨fun h' => absurd hk0 h', fun _ => ⟨fun h' => absurd hc (by omega), fun _ => h⟩⟩
  rcases h with ⟨S, n, hD, rfl, hq, hk⟩ | ⟨S, d, u, n, j, hj, m, hD, rfl, hq, hk⟩
  · refine ⟨_, _, _, n, 0, ⟨fun _ => ⟨S, ?_, rfl, fun h => ?_, fun h => ?_⟩, fun h => absurd rfl h⟩, rfl, hq, hk⟩
    · rw [dec_sz hD, G7.el_len, (byB_sz (xB_size hc) (xB_eB hk0 hc)).1]
    · exact hdc _ _ _ _ _ ⟨S, n, 0, hD, fun h' => absurd rfl h', fun _ => ⟨fun _ => ⟨⟨rfl, rfl, rfl, rfl⟩, rfl⟩, fun h' => absurd h' h⟩⟩
    · exact hdc _ _ _ _ _ ⟨S, n, 0, hD, fun h' => absurd rfl h', fun _ => ⟨fun h' => absurd h h', fun _ => ⟨rfl, rfl, rfl, rfl, rfl⟩⟩⟩
  · refine ⟨_, d, u, n, j, ⟨fun h => absurd h hj, fun _ => ?_⟩, rfl, hq, hk⟩
    exact hdc _ _ _ _ _ ⟨S, m, j, hD, fun _ => ⟨⟨rfl, rfl, rfl, rfl⟩, rfl⟩, fun h => absurd h hj⟩
set_option maxHeartbeats 4000000 in
theorem apply_bad {c : ByteArray} {A Q : Nat} (w : World) (hc : c.size ≤ 1000000) (hA : VAt w A (stepsD Q)) (k : Int) (hk : k ≠ 0) (h : (C1.chk c.data.toList = 3 ∧ k = 3) ∨ (C1.chk c.data.toList = 0 ∧ 836 < c.size ∧ k = 6)) : Calls Tryz.prog 36 #[.string c, .slice (some ⟨A, 0, none⟩) 6 6] w fun e w' => e = .returned (.tuple #[.string ⟨#[]⟩, .int .i64 k]) ∧ w = w' := by
  have l0 : w.cell? ⟨A, 0, none⟩ = some (.func (.func 81) #[] #[]) := (hA 0 (show 0 < 6 by decide)).1
  have cC := Lib.hid (fun W => completed_no c W hc k h)
  have d1 : (k != 0) = true := bne_iff_ne.2 hk
  clear hA h hk hc
  go_enter Tryz.func36, Tryz.ntmps36
  go_wp2
  go_loopw [0, 11] (fun sv iv wr => iv = .int .i64 0 ∧ sv = .string c ∧ wr = w) (fun _ _ _ => 0)
  case atStart => exact ⟨rfl, rfl, rfl⟩
  case round =>
    obtain ⟨rfl, rfl, rfl⟩ := hrel
    go_wp2_with fail
    refine (cC.out _).mono ?_
    rintro e w1 ⟨rfl, rfl⟩
    go_wp2
    go_ret2
    exact ⟨rfl, rfl⟩
theorem apply_any {c : ByteArray} {A Q : Nat} (w : World) (hc : c.size ≤ 1000000) (hA : VAt w A (stepsD Q)) (hs : A < w.heap.size) (hAQ : A ≠ Q) (hQ : Q < w.heap.size) (hq : QAt w Q 0 0 0) : Calls Tryz.prog 36 #[.string c, .slice (some ⟨A, 0, none⟩) 6 6] w (ApR c Q w) := by
  have hbad : ∀ k : Int, k ≠ 0 → ((C1.chk c.data.toList = 3 ∧ k = 3) ∨ (C1.chk c.data.toList = 0 ∧ 836 < c.size ∧ k = 6)) → DcQ c zeroF 0 0 0 k → Calls Tryz.prog 36 #[.string c, .slice (some ⟨A, 0, none⟩) 6 6] w (ApR c Q w) := fun k hk h hD => by
    refine (apply_bad w hc hA k hk h).mono ?_
    rintro e w' ⟨rfl, rfl⟩
    exact ⟨_, 0, 0, 0, k, ⟨fun h => absurd h hk, fun _ => hD⟩, rfl, hq, Keeps.refl _ _⟩
  rcases C1.chk_cases c.data.toList with h | h
  · by_cases h8 : c.size ≤ 836
    · exact (applyD w h h8 hA hs hAQ hQ hq).mono fun e w' h' => apR_good h h8 h'
    · exact hbad 6 (by decide) (.inr ⟨h, by omega, rfl⟩) ⟨fun h' => absurd h h', fun _ => ⟨fun _ => ⟨⟨rfl, rfl, rfl, rfl⟩, rfl⟩, fun h' => absurd h' h8⟩⟩
  · exact hbad 3 (by decide) (.inl ⟨h, rfl⟩) ⟨fun _ => ⟨⟨rfl, rfl, rfl, rfl⟩, rfl⟩, fun h' => by omega⟩
def DmP (c : ByteArray) (w : World) (e : Ending) (w' : World) : Prop := ∃ T d u n j, DmR c T d u n j ∧ e = .returned (.tuple #[.string T, qV d u n, .int .i64 j]) ∧ Below w.heap.size w w'
set_option maxHeartbeats 8000000 in
theorem message_own (c : ByteArray) (w : World) (hc : c.size ≤ 1000000) : Calls Tryz.prog 50 #[.string c] w (DmP c w) := by
  have hgoal : ∀ T d u n j w', DmR c T d u n j → Below w.heap.size w w' → DmP c w (.returned (.tuple #[.string T, .agg #[.int .i64 d, .int .i64 u, .int .i64 n], .int .i64 j])) w' := fun T d u n j w' h hb => ⟨T, d, u, n, j, h, rfl, hb⟩
  replace hgoal := Lib.hid hgoal
  obtain ⟨P, hP⟩ : ∃ P, DmP c w = P := ⟨_, rfl⟩
  rw [hP] at hgoal ⊢
  show Calls _ _ _ _ (fun e w' => P e w')
  have hq0 : QAt (w.alloc (.cells #[.int .i64 0, .int .i64 0, .int .i64 0] 42)) w.heap.size 0 0 0 := vat_alloc w 42 [.int .i64 0, .int .i64 0, .int .i64 0]
  have hb0 : Below w.heap.size w (w.alloc (.cells #[.int .i64 0, .int .i64 0, .int .i64 0] 42)) := (Below.refl _ _).alloc (Nat.le_refl _) _
  obtain ⟨Q, hQ⟩ : ∃ Q, w.heap.size = Q := ⟨_, rfl⟩
  obtain ⟨W1, hW1⟩ : ∃ W, w.alloc (.cells #[.int .i64 0, .int .i64 0, .int .i64 0] 42) = W := ⟨_, rfl⟩
  have hs1 : W1.heap.size = Q + 1 := by rw [← hW1, ← hQ]; simp
  rw [hW1, hQ] at hq0 hb0
  have hA := vat_alloc W1 96 (stepsD Q)
  have hal := (Below.refl W1.heap.size W1).alloc (Nat.le_refl _) (.cells (stepsD Q).toArray 96)
  obtain ⟨W2, hW2⟩ : ∃ W, W1.alloc (.cells (stepsD Q).toArray 96) = W := ⟨_, rfl⟩
  have hs2 : W2.heap.size = Q + 2 := by rw [← hW2, World.size_alloc, hs1]
  rw [hW2] at hA hal
  rw [hs1] at hA
  have hq2 := hq0.below (by omega) hal
  have hb2 := chain (w := w) (w1 := W1) (by rw [hQ]; exact hb0) hal
  have cA := apply_any (c := c) W2 hc hA (by omega) (by omega) (by omega) hq2
  have hbK := fun w' (h : Keeps Q W2 w') => h.below Q w (Nat.le_refl _) (by rw [hQ] at hb2; exact hb2)
  unfold stepsD at hW2
  replace cA := Lib.hid cA
  replace hbK := Lib.hid hbK
  have hQh := Lib.hid hQ
  have hs1h := Lib.hid hs1
  clear hP hc hq0 hb0 hA hal hs2 hq2 hb2
  go_enter Tryz.func50, Tryz.ntmps50
  go_wp2_with fail
  refine cA.out.mono ?_
  rintro e w3 ⟨T, d, u, n, j, hR, rfl, hq, hk⟩
  have hb3 := hbK.out w3 hk
  have hput : QAt (putN Q w3 0 [.int .i64 d, .int .i64 u, .int .i64 n]) Q d u n := putN_all (l := [.int .i64 d, .int .i64 u, .int .i64 n]) hq rfl
  have hbel : Below Q w (putN Q w3 0 [.int .i64 d, .int .i64 u, .int .i64 n]) := putN_below (Nat.le_refl _) [.int .i64 d, .int .i64 u, .int .i64 n] 0 _ hb3
  obtain ⟨W4, hW4⟩ : ∃ W, putN Q w3 0 [.int .i64 d, .int .i64 u, .int .i64 n] = W := ⟨_, rfl⟩
  rw [hW4] at hput hbel
  have hfin := fun w' hb => hgoal.out T d u n j w' hR hb
  rw [hQ] at hfin
  have hf0 := Lib.hid (hfin W4 hbel)
  have hf1 := Lib.hid (hfin W4.drew hbel.drew)
  simp only [putN, Nat.zero_add, Nat.reduceAdd] at hW4
  obtain ⟨q0, q1, q2, z0, z1, z2⟩ := cells3 hq
  obtain ⟨p0, p1, p2, _, _, _⟩ := cells3 hput
  clear hR hq hk hb3 hput hbel hfin hgoal cA hbK hW1 hW2
  go_wp2_with fail
  go_region
  all_goals
    go_wp2
    first
      | (refine bodyPost_ret (v := .tuple #[.string T, .agg #[.int .i64 d, .int .i64 u, .int .i64 n], .int .i64 j]) ?_ rfl hf1.out
         simp [results, Tryz.results50, go_sem, p0, p1, p2])
      | (refine bodyPost_ret (v := .tuple #[.string T, .agg #[.int .i64 d, .int .i64 u, .int .i64 n], .int .i64 j]) ?_ rfl hf0.out
         simp [results, Tryz.results50, go_sem, p0, p1, p2])
end Go.Proofs.YtgpdfkallgjocaaGreatDoor.F13
