/- The contract of the landed function Decode of layer 10. -/
import Derived.Test.YtmkmikegddafdaaV10Own4
namespace Go.Proofs.Ytmkmikegddafdaa.V10
open Go.RowKit Mem C9
set_option linter.unusedVariables false
set_option linter.unusedSimpArgs false

theorem info_choV : (Try.prog.info? 52).map (fun i => (i.zero, i.size, i.bytes)) = some (some (.agg #[.int .u8 0, .int .u8 0, .int .u8 0, .int .u8 0]), 4, 4) := by kernel_rfl
theorem make_choV (w : World) (n : Nat) (h : n ≤ 1000000) : ∃ l : List Value, l.length = n * 4 ∧ (Instr.makeSlice 49 (.int .i64 (n : Int)) (.int .i64 (n : Int))).run Try.prog w = .ok (.slice (some ⟨w.heap.size, 0, none⟩) n n) (w.alloc (.cells l.toArray 52)) := by
  obtain ⟨i0, hi, hz0, hz1, hz2⟩ := info_parts info_choV
  have hr := run_make (P := Try.prog) w 49 52 i0 _ Try.underlying49 hi hz0 .i64 .i64 (n : Int) (n : Int) (by omega) (Int.le_refl _) (by rw [hz2]; omega) (by omega)
  simp only [Int.toNat_natCast] at hr
  rw [hz1] at hr
  refine ⟨(madeCells (Value.agg #[.int .u8 0, .int .u8 0, .int .u8 0, .int .u8 0]).cells (n * 4)).toList, ?_, ?_⟩
  · rw [Array.length_toList, size_madeCells]
  · rw [Array.toArray_toList]
    exact hr
/-- A row of four choices laid into a row of values. -/
def setRowV (l : List Value) (p : Nat) (f : Nat → Nat) : List Value :=
  (((l.set p (.int .u8 (f 0 : Int))).set (p + 1) (.int .u8 (f 1 : Int))).set (p + 2) (.int .u8 (f 2 : Int))).set (p + 3) (.int .u8 (f 3 : Int))
theorem setRowV_len (l : List Value) (p : Nat) (f : Nat → Nat) : (setRowV l p f).length = l.length := by simp [setRowV]
theorem setRowV_other (l : List Value) (p : Nat) (f : Nat → Nat) (x : Nat) (h : x < p ∨ p + 4 ≤ x) : (setRowV l p f)[x]? = l[x]? := by
  unfold setRowV
  rw [List.getElem?_set_ne (by omega), List.getElem?_set_ne (by omega), List.getElem?_set_ne (by omega), List.getElem?_set_ne (by omega)]
theorem setRowV_same (l : List Value) (p : Nat) (f : Nat → Nat) (hp : p + 4 ≤ l.length) : ∀ j, j < 4 → (setRowV l p f)[p + j]? = some (.int .u8 (f j : Int)) := by
  intro j hj
  unfold setRowV
  have : j = 0 ∨ j = 1 ∨ j = 2 ∨ j = 3 := by omega
  rcases this with rfl | rfl | rfl | rfl <;> simp [List.getElem?_set] <;> omega
theorem blk_rowV {T : TypeId} {W : World} {g : Nat} {l : List Value} (h : BlkT T W g l) (p : Nat) (f : Nat → Nat) (hp : p + 4 ≤ l.length) :
    BlkT T ((((W.setCell ⟨g, p, none⟩ (.int .u8 (f 0 : Int))).setCell ⟨g, p + 1, none⟩ (.int .u8 (f 1 : Int))).setCell ⟨g, p + 2, none⟩ (.int .u8 (f 2 : Int))).setCell ⟨g, p + 3, none⟩ (.int .u8 (f 3 : Int))) g (setRowV l p f) :=
  (((h.set p _ (by omega)).set (p + 1) _ (by simp; omega)).set (p + 2) _ (by simp; omega)).set (p + 3) _ (by simp; omega)
def TabV (l : List Value) (R : List (UInt8 × UInt8)) (k m : Nat) : Prop := ∀ q, k ≤ q → q < m → ∀ j, j < 4 → l[q * 4 + j]? = some (.int .u8 (chR (R.drop q) j : Int))
theorem TabV.step {l : List Value} {R : List (UInt8 × UInt8)} {k m : Nat} (h : TabV l R (k + 1) m) (hl : l.length = m * 4) (hk : k < m) : TabV (setRowV l (k * 4) (chR (R.drop k))) R k m := by
  intro q h1 h2 j hj
  by_cases e : q = k
  · subst e
    rw [setRowV_same l (q * 4) _ (by rw [hl]; omega) j hj]
  · rw [setRowV_other l (k * 4) _ _ (by omega)]
    exact h q (by omega) h2 j hj
theorem far_rowV {T : TypeId} {W : World} {g g' : Nat} {l : List Value} (h : BlkT T W g l) (hne : g' ≠ g) (p : Nat) (v0 v1 v2 v3 : Value) : BlkT T ((((W.setCell ⟨g', p, none⟩ v0).setCell ⟨g', p + 1, none⟩ v1).setCell ⟨g', p + 2, none⟩ v2).setCell ⟨g', p + 3, none⟩ v3) g l :=
  (((h.far hne p _).far hne (p + 1) _).far hne (p + 2) _).far hne (p + 3) _
theorem below_rowV {G g : Nat} {w W : World} (h : Below G w W) (hg : G ≤ g) (p : Nat) (v0 v1 v2 v3 : Value) : Below G w ((((W.setCell ⟨g, p, none⟩ v0).setCell ⟨g, p + 1, none⟩ v1).setCell ⟨g, p + 2, none⟩ v2).setCell ⟨g, p + 3, none⟩ v3) :=
  (((h.setCell (p := ⟨g, p, none⟩) hg _).setCell (p := ⟨g, p + 1, none⟩) hg _).setCell (p := ⟨g, p + 2, none⟩) hg _).setCell (p := ⟨g, p + 3, none⟩) hg _
theorem dS_errV {c : ByteArray} (h : eB c ≠ 0) : dS c = ⟨#[]⟩ ∧ dN c = 0 ∧ dB c = false := by
  unfold dS dN dB
  rw [if_neg h, if_neg h, if_neg h]
  exact ⟨rfl, rfl, rfl⟩
set_option maxRecDepth 100000 in
set_option maxHeartbeats 16000000 in
theorem decode_own (c : ByteArray) (w : World) (hc : c.size ≤ 100000) : Calls Try.prog 12 #[.string c] w (Deco c w) := by
  have cK := Lib.hid (fun W => check_own c W (by omega))
  unfold Deco
  by_cases he : eB c = 0
  · obtain ⟨ho, n, hn⟩ := eB_zero he
    obtain ⟨m, hm⟩ : ∃ m, n + 2 = m := ⟨_, rfl⟩
    have q3 : c.size / 2 = m := by omega
    have hdS : dS c = sb ((dec (rc c) false false).take n) := by unfold dS; rw [if_pos he, show c.size / 2 - 2 = n by omega]
    have hdN : dN c = costR (rc c) 0 := by unfold dN; rw [if_pos he]; rfl
    have hdB : dB c = decide ((tb (rc c) false false).2 = 1) := by unfold dB; rw [if_pos he]
    rw [he] at cK ⊢
    rw [hdS, hdN, hdB]
    have hrl := rc_len hn
    have hz : 0 ≤ (tb (rc c) false false).1 := by
      by_cases hneg : (tb (rc c) false false).1 < 0
      · exact absurd (path_of (List.replicate n false) (rc c) (by rw [hrl, List.length_replicate])) (((tb_ok _ _ _).neg hneg).2 _)
      · omega
    have hE := Lib.hid (fun j (hj : j < m) => back_own c n ho hn hc j (by omega))
    have cC := Lib.hid (fun g W h => cheapest_own (rc c) g n W hrl (by omega) hz h)
    rw [hm] at cC hrl
    have hend : (rc c).drop m = [] := List.drop_of_length_le (by omega)
    obtain ⟨l0, hl0, hmk⟩ := make_choV w m (by omega)
    obtain ⟨R, hR⟩ : ∃ R, rc c = R := ⟨_, rfl⟩
    rw [hR] at hE hend cC ⊢
    obtain ⟨DS, hDS⟩ : ∃ D, sb ((dec R false false).take n) = D := ⟨_, rfl⟩
    obtain ⟨DB, hDB⟩ : ∃ D, decide ((tb R false false).2 = 1) = D := ⟨_, rfl⟩
    rw [hDS, hDB] at cC ⊢
    have cN := Lib.hid (fun W => end_own W)
    have cT := Lib.hid (fun W => trans_own c m W q3 (by omega))
    have hB0 : BlkT 52 (w.alloc (.cells l0.toArray 52)) w.heap.size l0 := World.alloc_heap_new w _
    have hb0 : Below w.heap.size w (w.alloc (.cells l0.toArray 52)) := (Below.refl _ w).alloc (Nat.le_refl _) _
    have hs0 : w.heap.size < (w.alloc (.cells l0.toArray 52)).heap.size := by simp
    have hT0 : TabV l0 R m m := fun q h1 h2 => absurd h1 (by omega)
    obtain ⟨W0, hW0⟩ : ∃ W0, w.alloc (.cells l0.toArray 52) = W0 := ⟨_, rfl⟩
    obtain ⟨G, hG⟩ : ∃ G, w.heap.size = G := ⟨_, rfl⟩
    rw [hW0, hG] at hmk hB0 hb0 hs0
    have hm6 : m ≤ 50002 := by omega
    replace hG := Lib.hid hG
    replace hT0 := Lib.hid hT0
    replace hl0 := Lib.hid hl0
    replace hend := Lib.hid hend
    clear he ho hn hm hR hdS hdN hdB hrl hz hDS hDB hW0 q3
    go_enter Try.func12, Try.ntmps12
    go_wp2_with fail
    refine (cK.out _).mono ?_
    rintro e w1 ⟨rfl, rfl⟩
    go_wp2_with fail
    refine (cT.out _).mono ?_
    rintro e w1 ⟨rfl, rfl⟩
    go_wp2_with fail
    refine (cN.out _).mono ?_
    rintro e w1 ⟨rfl, hb1⟩
    have hB1 := hB0.below hb1 hs0
    have hBb : Below G w w1 := hb0.trans (hb1.mono (Nat.le_of_lt hs0))
    have hs1 : G < w1.heap.size := Nat.lt_of_lt_of_le hs0 hb1.size
    obtain ⟨H, hH⟩ : ∃ H, w1.heap.size = H := ⟨_, rfl⟩
    have hH0 : BlkT 27 (w1.alloc (.cells #[.int .i64 0, .int .i64 (-1), .int .i64 (-1), .int .i64 (-1)] 27)) H (vec (costR [])) := by rw [← hH]; exact World.alloc_heap_new w1 _
    have hHz : BlkT 52 (w1.alloc (.cells #[.int .i64 0, .int .i64 (-1), .int .i64 (-1), .int .i64 (-1)] 27)) G l0 := by
      unfold BlkT
      rw [Lib.alloc_old _ _ _ hs1]
      exact hB1
    have hHb : Below G w (w1.alloc (.cells #[.int .i64 0, .int .i64 (-1), .int .i64 (-1), .int .i64 (-1)] 27)) := hBb.alloc (Nat.le_of_lt hs1) _
    have hHs : H < (w1.alloc (.cells #[.int .i64 0, .int .i64 (-1), .int .i64 (-1), .int .i64 (-1)] 27)).heap.size := by rw [← hH]; simp
    have hGH : G < H := by rw [← hH]; exact hs1
    rw [← hend.out] at hH0
    replace hH := Lib.hid hH
    replace hH0 := Lib.hid hH0
    replace hHz := Lib.hid hHz
    replace hHs := Lib.hid hHs
    clear hB1 hBb hs1 hb1 hB0 hb0 hs0 hmk
    go_wp2
    rw [hH.out]
    go_loopw [9] (fun iv wr => ∃ (K : Nat) (l : List Value), K ≤ m ∧ iv = .int .i64 ((K : Int) - 1) ∧ Hid (l.length = m * 4) ∧ Hid (TabV l R K m) ∧ Hid (BlkT 27 wr H (vec (costR (R.drop K)))) ∧ Hid (BlkT 52 wr G l) ∧ Hid (H < wr.heap.size) ∧ Below G w wr) (fun iv _ => ((intOf iv) + 1).toNat)
    case atStart => exact ⟨m, l0, Nat.le_refl _, rfl, hl0, hT0, hH0, hHz, hHs, hHb⟩
    case round =>
      clear hH0 hHz hHs hHb hH hT0 hl0 hend
      obtain ⟨K, l, hK, rfl, hl, hT, hg, hgz, hsz, hb⟩ := hrel
      by_cases hKz : K = 0
      · subst hKz
        have hx : ((0 : Nat) : Int) - 1 = -1 := by decide
        rw [hx]
        have hCh : Chs wr G R m := ⟨Nat.lt_trans hGH hsz.out, fun q s hq hs => (hgz.out.cell _).trans (hT.out q (Nat.zero_le _) hq s hs)⟩
        have hc0 : wr.cell? ⟨H, 0, none⟩ = some (.int .i64 (costR R 0)) := hg.out.cell 0
        have cD := cC.out G wr hCh
        obtain ⟨Z, hZ⟩ : ∃ Z, costR R 0 = Z := ⟨_, rfl⟩
        rw [hZ] at hc0
        replace hZ := Lib.hid hZ
        replace cD := Lib.hid cD
        clear hCh hg hgz hE hT hl cC
        go_wp2_with fail
        refine cD.out.mono ?_
        rintro e w5 ⟨rfl, hb5⟩
        have hc5 := (hb5.cell (p := ⟨H, 0, none⟩) hsz.out).trans hc0
        have hB5 : Below G w w5 := hb.trans (hb5.mono (by have := hsz.out; omega))
        clear hc0 hb5 hb
        go_wp2_with fail
        go_quiet (fail)
        go_wp2
        exact bodyPost_ret (v := .tuple #[.string DS, .int .i64 Z, .bool DB, .int .i64 0]) (by simp [results, Try.results12, go_sem]) rfl ⟨by rw [hZ.out], by rw [hG.out]; exact ⟨hB5.os, hB5.tape, hB5.output, hB5.size, hB5.block⟩⟩
      · obtain ⟨k, rfl⟩ : ∃ k, K = k + 1 := ⟨K - 1, by omega⟩
        have hx : ((k + 1 : Nat) : Int) - 1 = (k : Int) := by omega
        rw [hx]
        have hkm : k < m := by omega
        obtain ⟨S, C, cR, cB, hC⟩ := hE.out k hkm
        obtain ⟨E, hEE⟩ : ∃ F, costR (R.drop (k + 1)) = F := ⟨_, rfl⟩
        obtain ⟨F, hF⟩ : ∃ F, costR (R.drop k) = F := ⟨_, rfl⟩
        rw [hEE] at cB hg
        rw [hF] at cB
        replace cB : ∀ W, Calls Try.prog 27 #[.agg #[.int .i64 (E 0), .int .i64 (E 1), .int .i64 (E 2), .int .i64 (E 3)], .string S] W fun e w' => e = .returned (.tuple #[.agg #[.int .i64 (F 0), .int .i64 (F 1), .int .i64 (F 2), .int .i64 (F 3)], .agg #[.int .u8 (C 0 : Int), .int .u8 (C 1 : Int), .int .u8 (C 2 : Int), .int .u8 (C 3 : Int)]]) ∧ Below W.heap.size W w' := cB
        have c0 : wr.cell? ⟨H, 0, none⟩ = some (.int .i64 (E 0)) := hg.out.cell 0
        have c1 : wr.cell? ⟨H, 1, none⟩ = some (.int .i64 (E 1)) := hg.out.cell 1
        have c2 : wr.cell? ⟨H, 2, none⟩ = some (.int .i64 (E 2)) := hg.out.cell 2
        have c3 : wr.cell? ⟨H, 3, none⟩ = some (.int .i64 (E 3)) := hg.out.cell 3
        have k1 : k ≤ 1000000 := by omega
        have i0 : (0 : Int) ≤ (k : Int) := by omega
        have i1 : (k : Int) < (m : Int) := by omega
        have cX : ∀ W, Below wr.heap.size wr W → W.cell? ⟨H, 0, none⟩ = some (.int .i64 (E 0)) ∧ W.cell? ⟨H, 1, none⟩ = some (.int .i64 (E 1)) ∧ W.cell? ⟨H, 2, none⟩ = some (.int .i64 (E 2)) ∧ W.cell? ⟨H, 3, none⟩ = some (.int .i64 (E 3)) ∧ (∀ j, W.frozen? ⟨H, j, none⟩ = false) ∧ W.cell? ⟨G, k * 4, none⟩ = some (cellOr W G (k * 4)) ∧ W.cell? ⟨G, k * 4 + 1, none⟩ = some (cellOr W G (k * 4 + 1)) ∧ W.cell? ⟨G, k * 4 + 2, none⟩ = some (cellOr W G (k * 4 + 2)) ∧ W.cell? ⟨G, k * 4 + 3, none⟩ = some (cellOr W G (k * 4 + 3)) ∧ (∀ j, W.frozen? ⟨G, j, none⟩ = false) := fun W h =>
          have g := hg.out.below h hsz.out
          have g' := hgz.out.below h (Nat.lt_trans hGH hsz.out)
          have L := hl.out
          ⟨g.cell 0, g.cell 1, g.cell 2, g.cell 3, g.frz, (g'.has _ (by omega)).1, (g'.has _ (by omega)).1, (g'.has _ (by omega)).1, (g'.has _ (by omega)).1, g'.frz⟩
        replace cX := Lib.hid cX
        replace cR := Lib.hid cR
        replace cB := Lib.hid cB
        replace hF := Lib.hid hF
        replace hC := Lib.hid hC
        clear hEE hx
        go_wp2_with fail
        go_region_with (first | (go_at_call 28; (with_reducible refine (cR.out _).mono ?_); rintro e w5 ⟨rfl, rfl⟩) | (go_at_call 27; (with_reducible refine (cB.out _).mono ?_); rintro e w6 ⟨rfl, hb7⟩; (have hb6 : Below wr.heap.size wr w6 := ⟨hb7.os, hb7.tape, hb7.output, hb7.size, hb7.block⟩); clear hb7; obtain ⟨n0, n1, n2, n3, nf, y0, y1, y2, y3, yf⟩ := cX.out _ hb6))
        all_goals
          have hg6 := hg.out.below hb6 hsz.out
          have hgz6 := hgz.out.below hb6 (Nat.lt_trans hGH hsz.out)
          have hne : G ≠ H := Nat.ne_of_lt hGH
          have r1 : Hid (BlkT 27 ((((((((w6.setCell ⟨H, 0, none⟩ (.int .i64 (F 0))).setCell ⟨H, 1, none⟩ (.int .i64 (F 1))).setCell ⟨H, 2, none⟩ (.int .i64 (F 2))).setCell ⟨H, 3, none⟩ (.int .i64 (F 3))).setCell ⟨G, k * 4, none⟩ (.int .u8 (C 0 : Int))).setCell ⟨G, k * 4 + 1, none⟩ (.int .u8 (C 1 : Int))).setCell ⟨G, k * 4 + 2, none⟩ (.int .u8 (C 2 : Int))).setCell ⟨G, k * 4 + 3, none⟩ (.int .u8 (C 3 : Int))) H (vec (costR (R.drop k)))) := Lib.hid (by rw [hF.out]; exact far_rowV (hg6.vec4 F) hne (k * 4) _ _ _ _)
          have r2 := Lib.hid (blk_rowV (hgz6.far4 (Ne.symm hne) (.int .i64 (F 0)) (.int .i64 (F 1)) (.int .i64 (F 2)) (.int .i64 (F 3))) (k * 4) C (by rw [hl.out]; omega))
          have r3 : Hid (TabV (setRowV l (k * 4) C) R k m) := Lib.hid (by rw [hC.out]; exact TabV.step hT.out hl.out hkm)
          have r4 : Hid ((setRowV l (k * 4) C).length = m * 4) := Lib.hid (by rw [setRowV_len]; exact hl.out)
          have r5 : Hid (H < ((((((((w6.setCell ⟨H, 0, none⟩ (.int .i64 (F 0))).setCell ⟨H, 1, none⟩ (.int .i64 (F 1))).setCell ⟨H, 2, none⟩ (.int .i64 (F 2))).setCell ⟨H, 3, none⟩ (.int .i64 (F 3))).setCell ⟨G, k * 4, none⟩ (.int .u8 (C 0 : Int))).setCell ⟨G, k * 4 + 1, none⟩ (.int .u8 (C 1 : Int))).setCell ⟨G, k * 4 + 2, none⟩ (.int .u8 (C 2 : Int))).setCell ⟨G, k * 4 + 3, none⟩ (.int .u8 (C 3 : Int))).heap.size) := Lib.hid (by
            have := hsz.out
            have := hb6.size
            simp
            omega)
          have r6 := below_rowV (below4 (hb.trans (hb6.mono (by have := hsz.out; omega))) (Nat.le_of_lt hGH) (.int .i64 (F 0)) (.int .i64 (F 1)) (.int .i64 (F 2)) (.int .i64 (F 3))) (Nat.le_refl G) (k * 4) (.int .u8 (C 0 : Int)) (.int .u8 (C 1 : Int)) (.int .u8 (C 2 : Int)) (.int .u8 (C 3 : Int))
          clear hg6 hgz6 hb6 n0 n1 n2 n3 nf y0 y1 y2 y3 yf c0 c1 c2 c3 hne
          go_wp2
          go_roundw
          case rel => exact ⟨k, _, by omega, rfl, r4, r3, r1, r2, r5, r6⟩
          case measure => simp [intOf]
  · obtain ⟨g1, g2, g3⟩ := dS_errV he
    rw [g1, g2, g3]
    obtain ⟨k, hk⟩ : ∃ k, eB c = k := ⟨_, rfl⟩
    rw [hk] at cK he ⊢
    have d1 : (k != 0) = true := bne_iff_ne.2 he
    clear g1 g2 g3 he hk
    go_enter Try.func12, Try.ntmps12
    go_wp2_with fail
    refine (cK.out _).mono ?_
    rintro e w1 ⟨rfl, rfl⟩
    go_wp2
    exact bodyPost_ret (by simp [results, Try.results12, go_sem]) rfl ⟨rfl, Below.refl _ _⟩
end Go.Proofs.Ytmkmikegddafdaa.V10
