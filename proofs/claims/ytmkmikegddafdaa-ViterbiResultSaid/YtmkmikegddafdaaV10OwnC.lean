/- The contract of the landed function Costs of layer 10. -/
import Derived.Test.YtmkmikegddafdaaV10Own3
import Derived.Test.YtmkmikegddafdaaV10Dev
namespace Go.Proofs.Ytmkmikegddafdaa.V10
open Go.RowKit Mem C9
set_option linter.unusedVariables false
set_option linter.unusedSimpArgs false

set_option maxRecDepth 100000 in
set_option maxHeartbeats 8000000 in
theorem costs_own (c : ByteArray) (k : Int) (w : World) (hc : c.size ≤ 100000) (k1 : -9223372036854775808 ≤ k) (k2 : k ≤ 9223372036854775807) : Calls Try.prog 14 #[.string c, .int .i64 k] w (Cost c k w) := by
  have cK := Lib.hid (fun W => check_own c W (by omega))
  have hz : BlkT 27 (w.alloc (.cells #[.int .i64 0, .int .i64 0, .int .i64 0, .int .i64 0] 27)) w.heap.size (vec zerosI) := World.alloc_heap_new w _
  have hzb : Below w.heap.size w (w.alloc (.cells #[.int .i64 0, .int .i64 0, .int .i64 0, .int .i64 0] 27)) := (Below.refl _ w).alloc (Nat.le_refl _) _
  have hzs : w.heap.size < (w.alloc (.cells #[.int .i64 0, .int .i64 0, .int .i64 0, .int .i64 0] 27)).heap.size := by simp
  unfold Cost
  by_cases he : eB c = 0
  · obtain ⟨ho, n, hn⟩ := eB_zero he
    obtain ⟨m, hm⟩ : ∃ m, n + 2 = m := ⟨_, rfl⟩
    have q2 : (c.size : Int) / 2 = (m : Int) := by omega
    have q3 : c.size / 2 = m := by omega
    rw [he] at cK
    by_cases hk0 : k < 0
    · have e1 : cE c k = 2 := by unfold cE; rw [if_pos he, if_pos (.inl hk0)]
      have e2 : ∀ a b, cA c k a b = 0 := fun a b => by unfold cA; rw [e1, if_neg (by decide)]
      rw [e1, e2, e2, e2, e2]
      have d1 : decide (k < 0) = true := decide_eq_true hk0
      replace hz := Lib.hid hz
      clear e1 e2 he ho hn hm
      go_enter Try.func14, Try.ntmps14
      go_wp2_with fail
      refine (cK.out _).mono ?_
      rintro e w1 ⟨rfl, rfl⟩
      go_wp2
      exact bodyPost_ret (results_row_tmp rfl _ _ w.heap.size 27 _ (0, 0) _ _ rfl rfl hz.out Try.underlying27 rfl (size_int4 zerosI)) rfl ⟨rfl, hzb⟩
    · have d1 : decide (k < 0) = false := decide_eq_false hk0
      by_cases hkm : (m : Int) < k
      · have e1 : cE c k = 2 := by unfold cE; rw [if_pos he, if_pos (.inr (by omega))]
        have e2 : ∀ a b, cA c k a b = 0 := fun a b => by unfold cA; rw [e1, if_neg (by decide)]
        rw [e1, e2, e2, e2, e2]
        have d2 : decide ((m : Int) < k) = true := decide_eq_true hkm
        replace hz := Lib.hid hz
        clear e1 e2 he ho hn hm
        go_enter Try.func14, Try.ntmps14
        go_wp2_with fail
        refine (cK.out _).mono ?_
        rintro e w1 ⟨rfl, rfl⟩
        go_wp2
        exact bodyPost_ret (results_row_tmp rfl _ _ w.heap.size 27 _ (0, 0) _ _ rfl rfl hz.out Try.underlying27 rfl (size_int4 zerosI)) rfl ⟨rfl, hzb⟩
      · have d2 : decide ((m : Int) < k) = false := decide_eq_false hkm
        obtain ⟨z, rfl⟩ : ∃ z : Nat, k = (z : Int) := ⟨k.toNat, by omega⟩
        have d2' : decide (m < z) = false := decide_eq_false (by omega)
        have e1 : cE c (z : Int) = 0 := by unfold cE; rw [if_pos he, if_neg (by omega)]
        have e2 : ∀ a b, cA c (z : Int) a b = costR ((rc c).drop z) (stN a b) := fun a b => by unfold cA cg; rw [e1, if_pos rfl, costR_at, Int.toNat_natCast]
        rw [e1, e2, e2, e2, e2]
        have hE := Lib.hid (fun j (hj : j < m) => back_own c n ho hn hc j (by omega))
        have hend : (rc c).drop m = [] := List.drop_of_length_le (by rw [rc_len hn]; omega)
        have hzm : z ≤ m := by omega
        have hm6 : m ≤ 50002 := by omega
        obtain ⟨R, hR⟩ : ∃ R, rc c = R := ⟨_, rfl⟩
        rw [hR] at hE hend ⊢
        have cN := Lib.hid (fun W => end_own W)
        have cT := Lib.hid (fun W => trans_own c m W q3 (by omega))
        obtain ⟨G, hG⟩ : ∃ G, w.heap.size = G := ⟨_, rfl⟩
        rw [hG] at hz hzb hzs
        replace hG := Lib.hid hG
        clear e1 e2 he ho hn hm hR hk0 hkm k1 k2
        replace hz := Lib.hid hz
        replace hend := Lib.hid hend
        go_enter Try.func14, Try.ntmps14
        go_wp2_with fail
        refine (cK.out _).mono ?_
        rintro e w1 ⟨rfl, rfl⟩
        go_wp2_with fail
        refine (cT.out _).mono ?_
        rintro e w1 ⟨rfl, rfl⟩
        go_wp2_with fail
        rw [hG.out]
        refine (cN.out _).mono ?_
        rintro e w1 ⟨rfl, hb1⟩
        have hz1 := hz.out.below hb1 hzs
        have hB1 : Below G w w1 := hzb.trans (hb1.mono (Nat.le_of_lt hzs))
        have hs1 : G < w1.heap.size := Nat.lt_of_lt_of_le hzs hb1.size
        obtain ⟨H, hH⟩ : ∃ H, w1.heap.size = H := ⟨_, rfl⟩
        have hH0 : BlkT 27 (w1.alloc (.cells #[.int .i64 0, .int .i64 (-1), .int .i64 (-1), .int .i64 (-1)] 27)) H (vec (costR [])) := by rw [← hH]; exact World.alloc_heap_new w1 _
        have hHz : BlkT 27 (w1.alloc (.cells #[.int .i64 0, .int .i64 (-1), .int .i64 (-1), .int .i64 (-1)] 27)) G (vec zerosI) := by
          unfold BlkT
          rw [Lib.alloc_old _ _ _ hs1]
          exact hz1
        have hHb : Below G w (w1.alloc (.cells #[.int .i64 0, .int .i64 (-1), .int .i64 (-1), .int .i64 (-1)] 27)) := hB1.alloc (Nat.le_of_lt hs1) _
        have hHs : H < (w1.alloc (.cells #[.int .i64 0, .int .i64 (-1), .int .i64 (-1), .int .i64 (-1)] 27)).heap.size := by rw [← hH]; simp
        have hGH : G < H := by rw [← hH]; exact hs1
        rw [← hend.out] at hH0
        replace hH := Lib.hid hH
        replace hH0 := Lib.hid hH0
        replace hHz := Lib.hid hHz
        replace hHs := Lib.hid hHs
        clear hz hz1 hB1 hs1 hb1 hzb hzs
        go_wp2_with fail
        refine (cT.out _).mono ?_
        rintro e w2 ⟨rfl, rfl⟩
        go_wp2
        rw [hH.out]
        go_loopw [8] (fun iv wr => ∃ K : Nat, z ≤ K ∧ K ≤ m ∧ iv = .int .i64 ((K : Int) - 1) ∧ Hid (BlkT 27 wr H (vec (costR (R.drop K)))) ∧ Hid (BlkT 27 wr G (vec zerosI)) ∧ Hid (H < wr.heap.size) ∧ Below G w wr) (fun iv _ => ((intOf iv) + 1).toNat)
        case atStart => exact ⟨m, hzm, Nat.le_refl _, rfl, hH0, hHz, hHs, hHb⟩
        case round =>
          clear hH0 hHz hHs hHb hH
          obtain ⟨K, hzK, hK, rfl, hg, hgz, hsz, hb⟩ := hrel
          by_cases hKz : K = z
          · subst hKz
            have dk : decide ((K : Int) ≤ (K : Int) - 1) = false := decide_eq_false (by omega)
            obtain ⟨F, hF⟩ : ∃ F, costR (R.drop K) = F := ⟨_, rfl⟩
            rw [hF] at hg
            replace hF := Lib.hid hF
            have c0 : wr.cell? ⟨H, 0, none⟩ = some (.int .i64 (F 0)) := hg.out.cell 0
            have c1 : wr.cell? ⟨H, 1, none⟩ = some (.int .i64 (F 1)) := hg.out.cell 1
            have c2 : wr.cell? ⟨H, 2, none⟩ = some (.int .i64 (F 2)) := hg.out.cell 2
            have c3 : wr.cell? ⟨H, 3, none⟩ = some (.int .i64 (F 3)) := hg.out.cell 3
            have d0 : wr.cell? ⟨G, 0, none⟩ = some (.int .i64 (zerosI 0)) := hgz.out.cell 0
            have d1 : wr.cell? ⟨G, 1, none⟩ = some (.int .i64 (zerosI 1)) := hgz.out.cell 1
            have d2 : wr.cell? ⟨G, 2, none⟩ = some (.int .i64 (zerosI 2)) := hgz.out.cell 2
            have d3 : wr.cell? ⟨G, 3, none⟩ = some (.int .i64 (zerosI 3)) := hgz.out.cell 3
            have fz := hgz.out.frz
            have g1 := Lib.hid (hgz.out.vec4 F)
            have gb := below4 hb (Nat.le_refl G) (.int .i64 (F 0)) (.int .i64 (F 1)) (.int .i64 (F 2)) (.int .i64 (F 3))
            clear hE
            go_wp2
            exact bodyPost_ret (results_row_tmp rfl _ _ G 27 _ (0, 0) _ _ rfl rfl g1.out Try.underlying27 rfl (size_int4 F)) rfl ⟨by rw [hF.out]; rfl, by rw [hG.out]; exact gb⟩
          · obtain ⟨k, rfl⟩ : ∃ k, K = k + 1 := ⟨K - 1, by omega⟩
            have hx : ((k + 1 : Nat) : Int) - 1 = (k : Int) := by omega
            rw [hx]
            have dk : decide ((z : Int) ≤ (k : Int)) = true := decide_eq_true (by omega)
            have dk' : decide (z ≤ k) = true := decide_eq_true (by omega)
            obtain ⟨S, C, cR, cB, _⟩ := hE.out k (by omega)
            obtain ⟨E, hEE⟩ : ∃ F, costR (R.drop (k + 1)) = F := ⟨_, rfl⟩
            obtain ⟨F, hF⟩ : ∃ F, costR (R.drop k) = F := ⟨_, rfl⟩
            rw [hEE] at cB hg
            rw [hF] at cB
            replace cB : ∀ W, Calls Try.prog 27 #[.agg #[.int .i64 (E 0), .int .i64 (E 1), .int .i64 (E 2), .int .i64 (E 3)], .string S] W fun e w' => e = .returned (.tuple #[.agg #[.int .i64 (F 0), .int .i64 (F 1), .int .i64 (F 2), .int .i64 (F 3)], .agg #[.int .u8 (C 0 : Int), .int .u8 (C 1 : Int), .int .u8 (C 2 : Int), .int .u8 (C 3 : Int)]]) ∧ Below W.heap.size W w' := cB
            have c0 : wr.cell? ⟨H, 0, none⟩ = some (.int .i64 (E 0)) := hg.out.cell 0
            have c1 : wr.cell? ⟨H, 1, none⟩ = some (.int .i64 (E 1)) := hg.out.cell 1
            have c2 : wr.cell? ⟨H, 2, none⟩ = some (.int .i64 (E 2)) := hg.out.cell 2
            have c3 : wr.cell? ⟨H, 3, none⟩ = some (.int .i64 (E 3)) := hg.out.cell 3
            have k1 : k ≤ 1000000 := by omega
            have cX : ∀ W, Below wr.heap.size wr W → W.cell? ⟨H, 0, none⟩ = some (.int .i64 (E 0)) ∧ W.cell? ⟨H, 1, none⟩ = some (.int .i64 (E 1)) ∧ W.cell? ⟨H, 2, none⟩ = some (.int .i64 (E 2)) ∧ W.cell? ⟨H, 3, none⟩ = some (.int .i64 (E 3)) ∧ ∀ j, W.frozen? ⟨H, j, none⟩ = false := fun W h =>
              have g := hg.out.below h hsz.out
              ⟨g.cell 0, g.cell 1, g.cell 2, g.cell 3, g.frz⟩
            replace cX := Lib.hid cX
            replace cR := Lib.hid cR
            replace cB := Lib.hid cB
            replace hF := Lib.hid hF
            clear hEE hx
            go_wp2_with fail
            go_region_with (first | (go_at_call 28; (with_reducible refine (cR.out _).mono ?_); rintro e w5 ⟨rfl, rfl⟩) | (go_at_call 27; (with_reducible refine (cB.out _).mono ?_); rintro e w6 ⟨rfl, hb7⟩; (have hb6 : Below wr.heap.size wr w6 := ⟨hb7.os, hb7.tape, hb7.output, hb7.size, hb7.block⟩); clear hb7; obtain ⟨n0, n1, n2, n3, nf⟩ := cX.out _ hb6))
            all_goals
              have hg6 := hg.out.below hb6 hsz.out
              have hgz6 := hgz.out.below hb6 (Nat.lt_trans hGH hsz.out)
              have r1 : Hid (BlkT 27 ((((w6.setCell ⟨H, 0, none⟩ (.int .i64 (F 0))).setCell ⟨H, 1, none⟩ (.int .i64 (F 1))).setCell ⟨H, 2, none⟩ (.int .i64 (F 2))).setCell ⟨H, 3, none⟩ (.int .i64 (F 3))) H (vec (costR (R.drop k)))) := Lib.hid (by rw [hF.out]; exact hg6.vec4 F)
              have r2 := Lib.hid (hgz6.far4 (Nat.ne_of_gt hGH) (.int .i64 (F 0)) (.int .i64 (F 1)) (.int .i64 (F 2)) (.int .i64 (F 3)))
              have r3 : Hid (H < ((((w6.setCell ⟨H, 0, none⟩ (.int .i64 (F 0))).setCell ⟨H, 1, none⟩ (.int .i64 (F 1))).setCell ⟨H, 2, none⟩ (.int .i64 (F 2))).setCell ⟨H, 3, none⟩ (.int .i64 (F 3))).heap.size) := Lib.hid (by
                have := hsz.out
                have := hb6.size
                simp
                omega)
              have r4 := below4 (hb.trans (hb6.mono (by have := hsz.out; omega))) (Nat.le_of_lt hGH) (.int .i64 (F 0)) (.int .i64 (F 1)) (.int .i64 (F 2)) (.int .i64 (F 3))
              clear hg6 hgz6 hb6 n0 n1 n2 n3 nf c0 c1 c2 c3
              go_wp2
              go_roundw
              case rel => exact ⟨k, by omega, by omega, rfl, r1, r2, r3, r4⟩
              case measure => simp [intOf]
  · have e1 : cE c k = eB c := by unfold cE; rw [if_neg he]
    have e2 : ∀ a b, cA c k a b = 0 := fun a b => by unfold cA; rw [e1, if_neg he]
    rw [e1, e2, e2, e2, e2]
    obtain ⟨E, hE⟩ : ∃ E, eB c = E := ⟨_, rfl⟩
    rw [hE] at he cK ⊢
    have d1 : (E != 0) = true := bne_iff_ne.2 he
    replace hz := Lib.hid hz
    clear e1 e2 hE he
    go_enter Try.func14, Try.ntmps14
    go_wp2_with fail
    refine (cK.out _).mono ?_
    rintro e w1 ⟨rfl, rfl⟩
    go_wp2
    exact bodyPost_ret (results_row_tmp rfl _ _ w.heap.size 27 _ (0, 0) _ _ rfl rfl hz.out Try.underlying27 rfl (size_int4 zerosI)) rfl ⟨rfl, hzb⟩
end Go.Proofs.Ytmkmikegddafdaa.V10
