/- The contract of the reference of layer 10: Costs. -/
import Derived.Test.YtmkmikegddafdaaV10Ref4
import Derived.Test.YtmkmikegddafdaaV10Own3
import Derived.Test.YtmkmikegddafdaaV10Dev
namespace Go.Proofs.Ytmkmikegddafdaa.V10
open Go.RowKit Mem C9
set_option linter.unusedVariables false
set_option linter.unusedSimpArgs false

theorem rowE_cost (R : List (UInt8 × UInt8)) (s : Nat) : (rowE R s).1 = costR R s := rfl
set_option maxRecDepth 100000 in
set_option maxHeartbeats 8000000 in
theorem rcosts_any (c : ByteArray) (k : Int) (w : World) (hc : c.size ≤ 100000) (k1 : -9223372036854775808 ≤ k) (k2 : k ≤ 9223372036854775807) : Calls Try.prog 15 #[.string c, .int .i64 k] w (Cost c k w) := by
  have cK := Lib.hid (fun W => rcheck10 c W (by omega))
  have hz : BlkT 27 (w.alloc (.cells #[.int .i64 0, .int .i64 0, .int .i64 0, .int .i64 0] 27)) w.heap.size (vec zerosI) := World.alloc_heap_new w _
  have hzb : Below w.heap.size w (w.alloc (.cells #[.int .i64 0, .int .i64 0, .int .i64 0, .int .i64 0] 27)) := (Below.refl _ w).alloc (Nat.le_refl _) _
  have hzs : w.heap.size < (w.alloc (.cells #[.int .i64 0, .int .i64 0, .int .i64 0, .int .i64 0] 27)).heap.size := by simp
  unfold Cost
  by_cases he : eB c = 0
  · obtain ⟨ho, n, hn⟩ := eB_zero he
    obtain ⟨m, hm⟩ : ∃ m, n + 2 = m := ⟨_, rfl⟩
    have q2 : (c.size : Int) / 2 = (m : Int) := by omega
    have q3 : c.size / 2 = m := by omega
    rw [he] at cK
    by_cases hk0 : k < 0
    · have e1 : cE c k = 2 := by unfold cE; rw [if_pos he, if_pos (.inl hk0)]
      have e2 : ∀ a b, cA c k a b = 0 := fun a b => by unfold cA; rw [e1, if_neg (by decide)]
      rw [e1, e2, e2, e2, e2]
      have d1 : decide (k < 0) = true := decide_eq_true hk0
      replace hz := Lib.hid hz
      clear e1 e2 he ho hn hm
      go_enter Try.func15, Try.ntmps15
      go_wp2_with fail
      refine (cK.out _).mono ?_
      rintro e w1 ⟨rfl, rfl⟩
      go_wp2
      exact bodyPost_ret (results_row_tmp rfl _ _ w.heap.size 27 _ (0, 0) _ _ rfl rfl hz.out Try.underlying27 rfl (size_int4 zerosI)) rfl ⟨rfl, hzb⟩
    · have d1 : decide (k < 0) = false := decide_eq_false hk0
      by_cases hkm : (m : Int) < k
      · have e1 : cE c k = 2 := by unfold cE; rw [if_pos he, if_pos (.inr (by omega))]
        have e2 : ∀ a b, cA c k a b = 0 := fun a b => by unfold cA; rw [e1, if_neg (by decide)]
        rw [e1, e2, e2, e2, e2]
        have d2 : decide ((m : Int) < k) = true := decide_eq_true hkm
        replace hz := Lib.hid hz
        clear e1 e2 he ho hn hm
        go_enter Try.func15, Try.ntmps15
        go_wp2_with fail
        refine (cK.out _).mono ?_
        rintro e w1 ⟨rfl, rfl⟩
        go_wp2
        exact bodyPost_ret (results_row_tmp rfl _ _ w.heap.size 27 _ (0, 0) _ _ rfl rfl hz.out Try.underlying27 rfl (size_int4 zerosI)) rfl ⟨rfl, hzb⟩
      · have d2 : decide ((m : Int) < k) = false := decide_eq_false hkm
        obtain ⟨z, rfl⟩ : ∃ z : Nat, k = (z : Int) := ⟨k.toNat, by omega⟩
        have d2' : decide (m < z) = false := decide_eq_false (by omega)
        have e1 : cE c (z : Int) = 0 := by unfold cE; rw [if_pos he, if_neg (by omega)]
        have e2 : ∀ a b, cA c (z : Int) a b = costR ((rc c).drop z) (stN a b) := fun a b => by unfold cA cg; rw [e1, if_pos rfl, costR_at, Int.toNat_natCast]
        rw [e1, e2, e2, e2, e2]
        have cT := Lib.hid (fun W => table_any c n W hn hc)
        rw [hm, show n + 3 = m + 1 by omega] at cT
        have hzm : z ≤ m := by omega
        have hm6 : m ≤ 50002 := by omega
        obtain ⟨F, hF⟩ : ∃ F, costR ((rc c).drop z) = F := ⟨_, rfl⟩
        rw [hF]
        have hcst : ∀ W g, Tab W g c m → ∀ s, s < 4 → W.cell? ⟨g, z * 8 + s * 2, none⟩ = some (.int .i64 (F s)) := fun W g h s hs => by
          rw [← hF]
          exact (h.cost z s hzm hs).1
        obtain ⟨G, hG⟩ : ∃ G, w.heap.size = G := ⟨_, rfl⟩
        rw [hG] at hz hzb hzs
        replace hG := Lib.hid hG
        obtain ⟨M, hM⟩ : ∃ M, m + 1 = M := ⟨_, rfl⟩
        rw [hM] at cT
        have i0 : (0 : Int) ≤ (z : Int) := by omega
        have i1 : (z : Int) < (M : Int) := by omega
        clear e1 e2 he ho hn hm hF hk0 hkm k1 k2 hM
        replace hz := Lib.hid hz
        replace hcst := Lib.hid hcst
        go_enter Try.func15, Try.ntmps15
        go_wp2_with fail
        rw [hG.out]
        refine (cK.out _).mono ?_
        rintro e w1 ⟨rfl, rfl⟩
        go_wp2_with fail
        refine (cT.out _).mono ?_
        rintro e w1 ⟨g, rfl, hTab, hb1⟩
        have hz1 := hz.out.below hb1 hzs
        have hB1 : Below G w w1 := hzb.trans (hb1.mono (Nat.le_of_lt hzs))
        have hs1 : G < w1.heap.size := Nat.lt_of_lt_of_le hzs hb1.size
        obtain ⟨H, hH⟩ : ∃ H, w1.heap.size = H := ⟨_, rfl⟩
        have hH0 : BlkT 27 (w1.alloc (.cells #[.int .i64 0, .int .i64 0, .int .i64 0, .int .i64 0] 27)) H (vec (partI F 0)) := by rw [← hH]; exact World.alloc_heap_new w1 _
        have hHz : BlkT 27 (w1.alloc (.cells #[.int .i64 0, .int .i64 0, .int .i64 0, .int .i64 0] 27)) G (vec zerosI) := by
          unfold BlkT
          rw [Lib.alloc_old _ _ _ hs1]
          exact hz1
        have hHT : Below w1.heap.size w1 (w1.alloc (.cells #[.int .i64 0, .int .i64 0, .int .i64 0, .int .i64 0] 27)) := (Below.refl _ w1).alloc (Nat.le_refl _) _
        have hHs : H < (w1.alloc (.cells #[.int .i64 0, .int .i64 0, .int .i64 0, .int .i64 0] 27)).heap.size := by rw [← hH]; simp
        have hGH : G < H := by rw [← hH]; exact hs1
        have hHH : H = w1.heap.size := hH.symm
        replace hHH := Lib.hid hHH
        replace hH := Lib.hid hH
        replace hH0 := Lib.hid hH0
        replace hHz := Lib.hid hHz
        replace hHs := Lib.hid hHs
        replace hTab := Lib.hid hTab
        clear hz hz1 hs1 hb1 hzb hzs
        go_wp2
        rw [hH.out]
        go_loopw [9] (fun iv wr => ∃ s : Nat, s ≤ 4 ∧ iv = .int .i64 (s : Int) ∧ Hid (BlkT 27 wr H (vec (partI F s))) ∧ Hid (BlkT 27 wr G (vec zerosI)) ∧ Hid (H < wr.heap.size) ∧ Below w1.heap.size w1 wr) (fun iv _ => 4 - (intOf iv).toNat)
        case atStart => exact ⟨0, by decide, rfl, hH0, hHz, hHs, hHT⟩
        case round =>
          clear hH0 hHz hHs hHT hH
          obtain ⟨s, hs4, rfl, hg, hgz, hsz, hb⟩ := hrel
          by_cases hs : s < 4
          · have dl : decide ((s : Int) < 4) = true := decide_eq_true (by omega)
            have hT := hcst.out wr g (hTab.out.below hb) s hs
            have k1 := (hg.out.has s hs).1
            have k2 := (hg.out.has s hs).2
            have j0 : (0 : Int) ≤ (s : Int) := by omega
            have j1 : (s : Int) < 4 := by omega
            have r1 : Hid (BlkT 27 (wr.setCell ⟨H, s, none⟩ (.int .i64 (F s))) H (vec (partI F (s + 1)))) := Lib.hid (by
              rw [← partI_step, ← vec_set _ s hs]
              exact hg.out.set s _ hs)
            have r2 := Lib.hid (hgz.out.far (g' := H) (Nat.ne_of_gt hGH) s (.int .i64 (F s)))
            have r3 : Hid (H < (wr.setCell ⟨H, s, none⟩ (.int .i64 (F s))).heap.size) := Lib.hid (by have := hsz.out; simpa using this)
            have r4 := hb.setCell (p := ⟨H, s, none⟩) (by show w1.heap.size ≤ H; rw [hHH.out]; exact Nat.le_refl _) (.int .i64 (F s))
            go_wp2
            go_roundw
            case rel => exact ⟨s + 1, by omega, by go_num, r1, r2, r3, r4⟩
            case measure => simp [intOf]; omega
          · obtain rfl : s = 4 := by omega
            have dl : decide (((4 : Nat) : Int) < 4) = false := by decide
            have e4 : vec (partI F 4) = vec F := rfl
            rw [e4] at hg
            have c0 : wr.cell? ⟨H, 0, none⟩ = some (.int .i64 (F 0)) := hg.out.cell 0
            have c1 : wr.cell? ⟨H, 1, none⟩ = some (.int .i64 (F 1)) := hg.out.cell 1
            have c2 : wr.cell? ⟨H, 2, none⟩ = some (.int .i64 (F 2)) := hg.out.cell 2
            have c3 : wr.cell? ⟨H, 3, none⟩ = some (.int .i64 (F 3)) := hg.out.cell 3
            have d0 : wr.cell? ⟨G, 0, none⟩ = some (.int .i64 (zerosI 0)) := hgz.out.cell 0
            have d1 : wr.cell? ⟨G, 1, none⟩ = some (.int .i64 (zerosI 1)) := hgz.out.cell 1
            have d2 : wr.cell? ⟨G, 2, none⟩ = some (.int .i64 (zerosI 2)) := hgz.out.cell 2
            have d3 : wr.cell? ⟨G, 3, none⟩ = some (.int .i64 (zerosI 3)) := hgz.out.cell 3
            have fz := hgz.out.frz
            have g1 := Lib.hid (hgz.out.vec4 F)
            have gb := below4 (hB1.trans (hb.mono (by rw [← hHH.out]; exact Nat.le_of_lt hGH))) (Nat.le_refl G) (.int .i64 (F 0)) (.int .i64 (F 1)) (.int .i64 (F 2)) (.int .i64 (F 3))
            clear e4 hg hgz
            go_wp2
            exact bodyPost_ret (results_row_tmp rfl _ _ G 27 _ (0, 0) _ _ rfl rfl g1.out Try.underlying27 rfl (size_int4 F)) rfl ⟨rfl, by rw [hG.out]; exact gb⟩
  · have e1 : cE c k = eB c := by unfold cE; rw [if_neg he]
    have e2 : ∀ a b, cA c k a b = 0 := fun a b => by unfold cA; rw [e1, if_neg he]
    rw [e1, e2, e2, e2, e2]
    obtain ⟨E, hE⟩ : ∃ E, eB c = E := ⟨_, rfl⟩
    rw [hE] at he cK ⊢
    have d1 : (E != 0) = true := bne_iff_ne.2 he
    replace hz := Lib.hid hz
    clear e1 e2 hE he
    go_enter Try.func15, Try.ntmps15
    go_wp2_with fail
    refine (cK.out _).mono ?_
    rintro e w1 ⟨rfl, rfl⟩
    go_wp2
    exact bodyPost_ret (results_row_tmp rfl _ _ w.heap.size 27 _ (0, 0) _ _ rfl rfl hz.out Try.underlying27 rfl (size_int4 zerosI)) rfl ⟨rfl, hzb⟩
end Go.Proofs.Ytmkmikegddafdaa.V10
