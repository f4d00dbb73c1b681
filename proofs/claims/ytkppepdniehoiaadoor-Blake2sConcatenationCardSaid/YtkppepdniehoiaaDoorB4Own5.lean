/- The contract of the landed package's vector. -/
import Derived.Test.YtkppepdniehoiaaDoorB4Own4
import Derived.Deep.Cut
namespace Go.Proofs.YtkppepdniehoiaaDoor.B4
open Go.RowKit Mem Parts
set_option linter.unusedVariables false
set_option linter.unusedSimpArgs false

theorem cell_wvs {w : World} {G : Nat} {t : TypeId} {fr : Nat × Nat} {l : List R} (h : w.heap[G]? = some (.cells (wvs l).toArray t fr)) (i : Nat) (hi : i < l.length) : w.cell? ⟨G, i, none⟩ = some (.int .u32 ((g l i).toNat : Int)) := by
  rw [Lib.cell_of_heap h]
  simp only [List.getElem?_toArray]
  exact wvs_get? l i hi
theorem below_block {w w1 : World} {G : Nat} {o : Obj} (h : w.heap[G]? = some o) (k : Below w.heap.size w w1) : w1.heap[G]? = some o := by
  have hlt : G < w.heap.size := by
    rcases Nat.lt_or_ge G w.heap.size with h' | h'
    · exact h'
    · simp [Array.getElem?_eq_none h'] at h
  exact (k.block G hlt).trans h
def start0 (h : List R) : List R := (List.range 8).map (g h) ++ ivL
theorem start0_of {h l : List R} (hl : l.length = 16) (hh : h.length = 8) (h1 : ∀ j, j < 8 → g l j = g h j) (h2 : ∀ j, j < 8 → g l (j + 8) = g ivL j) : l = start0 h :=
  g_ext (by rw [hl]; simp [start0, ivL]) (fun j => by
    by_cases hj : j < 8
    · rw [h1 j hj]
      unfold start0 g
      simp [List.getD, List.getElem?_append, hj]
    · by_cases hj2 : j < 16
      · obtain ⟨i, rfl⟩ : ∃ i, j = i + 8 := ⟨j - 8, by omega⟩
        rw [h2 i (by omega)]
        unfold start0 g
        simp [List.getD, List.getElem?_append, show ¬ i + 8 < 8 by omega]
      · rw [g_big _ _ (by omega), g_big _ _ (by simp [start0, ivL]; omega)])

set_option maxHeartbeats 4000000 in
theorem ovector_false (h : List R) (count : Nat) (w : World) (hh : h.length = 8) (hcount : count < 18446744073709551616) (hL : Laid w) :
    Calls Tryd.prog 31 #[av h, .int .u64 (count : Int), .bool false] w fun e w' => e = .returned (av (startL h count false)) ∧ Below w.heap.size w w' := by
  obtain ⟨tI, frI, hI⟩ := block_of_var gInit hL.1
  clear hL
  have hsz : (wvs h).toArray.size = 8 := by simp [wvs_len, hh]
  have hA0 : Arr 32 (((w.alloc (.cells (wvs h).toArray 32)).alloc (.cells (wvs zeros16).toArray 48)).alloc (.cells (wvs zeros16).toArray 48)) w.heap.size h := arr_old (arr_old (arr_new w h _) _) _
  have hR0 : Arr 48 (((w.alloc (.cells (wvs h).toArray 32)).alloc (.cells (wvs zeros16).toArray 48)).alloc (.cells (wvs zeros16).toArray 48)) (w.heap.size + 1) zeros16 := by
    have := arr_new (w.alloc (.cells (wvs h).toArray 32)) zeros16 48
    rw [show (w.alloc (.cells (wvs h).toArray 32)).heap.size = w.heap.size + 1 by simp] at this
    exact arr_old this _
  have hV0 : Arr 48 (((w.alloc (.cells (wvs h).toArray 32)).alloc (.cells (wvs zeros16).toArray 48)).alloc (.cells (wvs zeros16).toArray 48)) (w.heap.size + 1 + 1) zeros16 := by
    have := arr_new ((w.alloc (.cells (wvs h).toArray 32)).alloc (.cells (wvs zeros16).toArray 48)) zeros16 48
    rw [show ((w.alloc (.cells (wvs h).toArray 32)).alloc (.cells (wvs zeros16).toArray 48)).heap.size = w.heap.size + 1 + 1 by simp] at this
    exact this
  have hB0 : Below w.heap.size w (((w.alloc (.cells (wvs h).toArray 32)).alloc (.cells (wvs zeros16).toArray 48)).alloc (.cells (wvs zeros16).toArray 48)) := (((Below.refl _ _).alloc (Nat.le_refl _) _).alloc (by simp) _).alloc (by simp; omega) _
  unfold av
  go_enter Tryd.func31, Tryd.ntmps31
  go_wp2_with fail
  change Code.wp _ _ _ _ (((w.alloc (.cells (wvs h).toArray 32)).alloc (.cells (wvs zeros16).toArray 48)).alloc (.cells (wvs zeros16).toArray 48))
  generalize (((w.alloc (.cells (wvs h).toArray 32)).alloc (.cells (wvs zeros16).toArray 48)).alloc (.cells (wvs zeros16).toArray 48)) = w0 at hA0 hV0 hR0 hB0 ⊢
  obtain ⟨G, hG⟩ : ∃ G, w.heap.size = G := ⟨_, rfl⟩
  have hGle : w.heap.size ≤ G := by omega
  have hGle2 : w.heap.size ≤ G + 1 + 1 := by omega
  rw [hG] at hA0 hV0 hR0 ⊢
  go_loopw [9] (fun i wr => ∃ (k : Nat) (l : List R), k ≤ 8 ∧ i = .int .i64 k ∧ l.length = 16 ∧ Hid (∀ j, j < k → g l j = g h j) ∧ Hid (∀ j, j < k → g l (j + 8) = g ivL j) ∧ Arr 32 wr G h ∧ Arr 48 wr (G + 1) zeros16 ∧ Arr 48 wr (G + 1 + 1) l ∧ Below w.heap.size w wr) (fun i _ => 8 - (intOf i).toNat)
  case atStart => exact ⟨0, zeros16, by omega, rfl, rfl, Lib.hid (fun j h => by omega), Lib.hid (fun j h => by omega), hA0, hR0, hV0, hB0⟩
  case round =>
    clear hA0 hV0 hR0 hB0
    obtain ⟨k, l, hk, rfl, hl, hl1, hl2, hA, hR, hV, hB⟩ := hrel
    by_cases hlt : k < 8
    · have d1 : decide ((k : Int) < 8) = true := decide_eq_true (by omega)
      have hI1 := below_block hI hB
      have e1 := hA.cell k (by omega)
      have e2 := hV.cell k (by omega)
      have e3 := hV.cell (k + 8) (by omega)
      have e4 := cell_wvs hI1 k (by simp [ivL]; omega)
      have f1 := hV.froz k
      have f2 := hV.froz (k + 8)
      obtain ⟨x, hx⟩ : ∃ x, g h k = x := ⟨_, rfl⟩
      obtain ⟨y, hy⟩ : ∃ x, g ivL k = x := ⟨_, rfl⟩
      obtain ⟨o1, ho1⟩ : ∃ x, g l k = x := ⟨_, rfl⟩
      obtain ⟨o2, ho2⟩ : ∃ x, g l (k + 8) = x := ⟨_, rfl⟩
      rw [hx] at e1
      rw [hy] at e4
      rw [ho1] at e2
      rw [ho2] at e3
      have x0 : (0 : Int) ≤ (k : Int) := by omega
      have x1 : (k : Int) < 8 := by omega
      have n1 := Lib.hid (show ∀ j, j < k + 1 → g ((l.set k x).set (k + 8) y) j = g h j from fun j hj => by
        rw [g_set _ _ _ _ (by simp; omega), if_neg (by omega), g_set _ _ _ _ (by omega)]
        by_cases hjk : k = j
        · subst hjk; rw [if_pos rfl, hx]
        · rw [if_neg hjk, hl1.out j (by omega)])
      have n2 := Lib.hid (show ∀ j, j < k + 1 → g ((l.set k x).set (k + 8) y) (j + 8) = g ivL j from fun j hj => by
        rw [g_set _ _ _ _ (by simp; omega)]
        by_cases hjk : k = j
        · subst hjk; rw [if_pos rfl, hy]
        · rw [if_neg (by omega), g_set _ _ _ _ (by omega), if_neg (by omega), hl2.out j (by omega)])
      have n3 : ((l.set k x).set (k + 8) y).length = 16 := by simp [hl]
      have hA2 := (hA.far (by omega : G ≠ G + 1 + 1) (i := k) (.int .u32 (x.toNat : Int))).far (by omega : G ≠ G + 1 + 1) (i := k + 8) (.int .u32 (y.toNat : Int))
      have hR2 := (hR.far (by omega : G + 1 ≠ G + 1 + 1) (i := k) (.int .u32 (x.toNat : Int))).far (by omega : G + 1 ≠ G + 1 + 1) (i := k + 8) (.int .u32 (y.toNat : Int))
      have hV2 := (hV.set k x).set (k + 8) y
      have hB2 := (hB.setCell (p := ⟨G + 1 + 1, k, none⟩) hGle2 (.int .u32 (x.toNat : Int))).setCell (p := ⟨G + 1 + 1, k + 8, none⟩) hGle2 (.int .u32 (y.toNat : Int))
      clear hx hy ho1 ho2 hA hR hV hB hl1 hl2 hI1
      go_wp2_with fail
      go_roundw
      case rel => exact ⟨k + 1, (l.set k x).set (k + 8) y, by omega, by go_num, n3, n1, n2, hA2, hR2, hV2, hB2⟩
      case measure => simp [intOf]; omega
    · have d1 : decide ((k : Int) < 8) = false := decide_eq_false (by omega)
      obtain rfl : k = 8 := by omega
      have hl0 := start0_of hl hh hl1.out hl2.out
      have e1 := hV.cell 12 (by omega)
      have e2 := hV.cell 13 (by omega)
      have e3 := hV.cell 14 (by omega)
      have f1 := hV.froz 12
      have f2 := hV.froz 13
      have f3 := hV.froz 14
      obtain ⟨a, ha⟩ : ∃ x, g l 12 = x := ⟨_, rfl⟩
      obtain ⟨b, hb⟩ : ∃ x, g l 13 = x := ⟨_, rfl⟩
      obtain ⟨c, hc⟩ : ∃ x, g l 14 = x := ⟨_, rfl⟩
      rw [ha] at e1
      rw [hb] at e2
      rw [hc] at e3
      obtain ⟨c0, hc0⟩ : ∃ x : R, BitVec.ofNat 32 count = x := ⟨_, rfl⟩
      obtain ⟨c1, hc1⟩ : ∃ x : R, BitVec.ofNat 32 (count / 4294967296) = x := ⟨_, rfl⟩
      have m0 : (count : Int) % 4294967296 = (c0.toNat : Int) := by rw [← hc0, BitVec.toNat_ofNat]; omega
      have m1 : (count : Int) / 4294967296 = (c1.toNat : Int) := by rw [← hc1, BitVec.toNat_ofNat]; omega
      have g1 := bxr a c0
      have g2 := bxr b c1
      obtain ⟨x0, hx0⟩ : ∃ x, a ^^^ c0 = x := ⟨_, rfl⟩
      obtain ⟨x1, hx1⟩ : ∃ x, b ^^^ c1 = x := ⟨_, rfl⟩
      obtain ⟨x2, hx2⟩ : ∃ x, ~~~ c = x := ⟨_, rfl⟩
      rw [hx0] at g1
      rw [hx1] at g2
      have lc1 := c1.isLt
      have hA2 := (hA.far (by omega : G ≠ G + 1 + 1) (i := 12) (.int .u32 (x0.toNat : Int))).far (by omega : G ≠ G + 1 + 1) (i := 13) (.int .u32 (x1.toNat : Int))
      have hR2 := (hR.far (by omega : G + 1 ≠ G + 1 + 1) (i := 12) (.int .u32 (x0.toNat : Int))).far (by omega : G + 1 ≠ G + 1 + 1) (i := 13) (.int .u32 (x1.toNat : Int))
      have hV2 := (hV.set 12 x0).set 13 x1
      have hB2 := (hB.setCell (p := ⟨G + 1 + 1, 12, none⟩) hGle2 (.int .u32 (x0.toNat : Int))).setCell (p := ⟨G + 1 + 1, 13, none⟩) hGle2 (.int .u32 (x1.toNat : Int))
      have hR3 := hR2.far (by omega : G + 1 ≠ G + 1 + 1) (i := 14) (.int .u32 (x2.toNat : Int))
      have hV3 := hV2.set 14 x2
      have hB3 := hB2.setCell (p := ⟨G + 1 + 1, 14, none⟩) hGle2 (.int .u32 (x2.toNat : Int))
      have hst : startL h count false = (l.set 12 x0).set 13 x1 := by
        subst hl0 ha hb hc0 hc1 hx0 hx1
        show ((start0 h).set 12 (g (start0 h) 12 ^^^ _)).set 13 (g ((start0 h).set 12 _) 13 ^^^ _) = _
        rw [g_set _ _ _ _ (by simp [start0, ivL]), if_neg (by decide)]
      have hst2 : startL h count true = ((l.set 12 x0).set 13 x1).set 14 x2 := by
        have e : startL h count true = (startL h count false).set 14 (~~~ (g (startL h count false) 14)) := rfl
        rw [e, hst, ← hx2, ← hc]
        rw [g_set _ _ _ _ (by simp [hl]), if_neg (by decide), g_set _ _ _ _ (by omega), if_neg (by decide)]
      have hst := Lib.hid hst
      have hst2h := Lib.hid hst2
      have hls : ((l.set 12 x0).set 13 x1).length = 16 := by simp [hl]
      obtain ⟨ls, hlse⟩ : ∃ x, (l.set 12 x0).set 13 x1 = x := ⟨_, rfl⟩
      rw [hlse] at hls hst hst2h hV2 hV3
      have hls2 : (ls.set 14 x2).length = 16 := by simp [hls]
      obtain ⟨lt, hlte⟩ : ∃ x, ls.set 14 x2 = x := ⟨_, rfl⟩
      rw [hlte] at hls2 hst2h hV3
      have gn : bits .xor .u32 (if IntKind.u32.signed = true then -1 else IntKind.u32.max) (c.toNat : Int) = (x2.toNat : Int) := by
        have := bxr 4294967295#32 c
        rw [← hx2, show ~~~ c = 4294967295#32 ^^^ c from BitVec.allOnes_xor.symm]
        exact this
      clear hl0 ha hb hc hc0 hc1 hx0 hx1 hx2 hlse hlte hst2 hA hR hV hB
      have hz16 : (Tryd.prog.info? 48).map (·.size) = some (wvs ls).toArray.size := by rw [info_16w]; simp [wvs_len, hls]
      have hold : (wvs zeros16).toArray.size = (wvs ls).toArray.size := by simp [wvs_len, hls]; rfl
      have hone := wvs_one ls
      have hz16' : (Tryd.prog.info? 48).map (·.size) = some (wvs lt).toArray.size := by rw [info_16w]; simp [wvs_len, hls2]
      have hold' : (wvs zeros16).toArray.size = (wvs lt).toArray.size := by simp [wvs_len, hls2]; rfl
      have hone' := wvs_one lt
      clear gn hV3 hR3 hB3 hst2h hz16' hold' hone'
      have hB9 := below_setRow hB2 (show w.heap.size ≤ G + 1 by omega) (wvs ls).toArray
      have hR9 := setRow_heap _ (G + 1) _ (wvs ls).toArray _ _ hR2
      go_upto_region 12 with (fail)
      go_wp2_with (first | (refine wpList_load_row rfl 48 (.tmp 7) rfl (G + 1 + 1) rfl 48 _ (0, 0) _ hV2 Tryd.underlying48 rfl hz16 ?_) | refine wpList_store_row rfl 48 (.tmp 6) (.tmp 42) rfl (G + 1) _ rfl rfl 48 _ hR2 hz16 hold hone ?_)
      exact bodyPost_ret (results_cell_row rfl _ _ (G + 1) 48 _ (0, 0) _ rfl hR9 Tryd.underlying48 rfl hz16) rfl ⟨by rw [hst.out], hB9⟩
set_option maxHeartbeats 4000000 in
theorem ovector_true (h : List R) (count : Nat) (w : World) (hh : h.length = 8) (hcount : count < 18446744073709551616) (hL : Laid w) :
    Calls Tryd.prog 31 #[av h, .int .u64 (count : Int), .bool true] w fun e w' => e = .returned (av (startL h count true)) ∧ Below w.heap.size w w' := by
  obtain ⟨tI, frI, hI⟩ := block_of_var gInit hL.1
  clear hL
  have hsz : (wvs h).toArray.size = 8 := by simp [wvs_len, hh]
  have hA0 : Arr 32 (((w.alloc (.cells (wvs h).toArray 32)).alloc (.cells (wvs zeros16).toArray 48)).alloc (.cells (wvs zeros16).toArray 48)) w.heap.size h := arr_old (arr_old (arr_new w h _) _) _
  have hR0 : Arr 48 (((w.alloc (.cells (wvs h).toArray 32)).alloc (.cells (wvs zeros16).toArray 48)).alloc (.cells (wvs zeros16).toArray 48)) (w.heap.size + 1) zeros16 := by
    have := arr_new (w.alloc (.cells (wvs h).toArray 32)) zeros16 48
    rw [show (w.alloc (.cells (wvs h).toArray 32)).heap.size = w.heap.size + 1 by simp] at this
    exact arr_old this _
  have hV0 : Arr 48 (((w.alloc (.cells (wvs h).toArray 32)).alloc (.cells (wvs zeros16).toArray 48)).alloc (.cells (wvs zeros16).toArray 48)) (w.heap.size + 1 + 1) zeros16 := by
    have := arr_new ((w.alloc (.cells (wvs h).toArray 32)).alloc (.cells (wvs zeros16).toArray 48)) zeros16 48
    rw [show ((w.alloc (.cells (wvs h).toArray 32)).alloc (.cells (wvs zeros16).toArray 48)).heap.size = w.heap.size + 1 + 1 by simp] at this
    exact this
  have hB0 : Below w.heap.size w (((w.alloc (.cells (wvs h).toArray 32)).alloc (.cells (wvs zeros16).toArray 48)).alloc (.cells (wvs zeros16).toArray 48)) := (((Below.refl _ _).alloc (Nat.le_refl _) _).alloc (by simp) _).alloc (by simp; omega) _
  unfold av
  go_enter Tryd.func31, Tryd.ntmps31
  go_wp2_with fail
  change Code.wp _ _ _ _ (((w.alloc (.cells (wvs h).toArray 32)).alloc (.cells (wvs zeros16).toArray 48)).alloc (.cells (wvs zeros16).toArray 48))
  generalize (((w.alloc (.cells (wvs h).toArray 32)).alloc (.cells (wvs zeros16).toArray 48)).alloc (.cells (wvs zeros16).toArray 48)) = w0 at hA0 hV0 hR0 hB0 ⊢
  obtain ⟨G, hG⟩ : ∃ G, w.heap.size = G := ⟨_, rfl⟩
  have hGle : w.heap.size ≤ G := by omega
  have hGle2 : w.heap.size ≤ G + 1 + 1 := by omega
  rw [hG] at hA0 hV0 hR0 ⊢
  go_loopw [9] (fun i wr => ∃ (k : Nat) (l : List R), k ≤ 8 ∧ i = .int .i64 k ∧ l.length = 16 ∧ Hid (∀ j, j < k → g l j = g h j) ∧ Hid (∀ j, j < k → g l (j + 8) = g ivL j) ∧ Arr 32 wr G h ∧ Arr 48 wr (G + 1) zeros16 ∧ Arr 48 wr (G + 1 + 1) l ∧ Below w.heap.size w wr) (fun i _ => 8 - (intOf i).toNat)
  case atStart => exact ⟨0, zeros16, by omega, rfl, rfl, Lib.hid (fun j h => by omega), Lib.hid (fun j h => by omega), hA0, hR0, hV0, hB0⟩
  case round =>
    clear hA0 hV0 hR0 hB0
    obtain ⟨k, l, hk, rfl, hl, hl1, hl2, hA, hR, hV, hB⟩ := hrel
    by_cases hlt : k < 8
    · have d1 : decide ((k : Int) < 8) = true := decide_eq_true (by omega)
      have hI1 := below_block hI hB
      have e1 := hA.cell k (by omega)
      have e2 := hV.cell k (by omega)
      have e3 := hV.cell (k + 8) (by omega)
      have e4 := cell_wvs hI1 k (by simp [ivL]; omega)
      have f1 := hV.froz k
      have f2 := hV.froz (k + 8)
      obtain ⟨x, hx⟩ : ∃ x, g h k = x := ⟨_, rfl⟩
      obtain ⟨y, hy⟩ : ∃ x, g ivL k = x := ⟨_, rfl⟩
      obtain ⟨o1, ho1⟩ : ∃ x, g l k = x := ⟨_, rfl⟩
      obtain ⟨o2, ho2⟩ : ∃ x, g l (k + 8) = x := ⟨_, rfl⟩
      rw [hx] at e1
      rw [hy] at e4
      rw [ho1] at e2
      rw [ho2] at e3
      have x0 : (0 : Int) ≤ (k : Int) := by omega
      have x1 : (k : Int) < 8 := by omega
      have n1 := Lib.hid (show ∀ j, j < k + 1 → g ((l.set k x).set (k + 8) y) j = g h j from fun j hj => by
        rw [g_set _ _ _ _ (by simp; omega), if_neg (by omega), g_set _ _ _ _ (by omega)]
        by_cases hjk : k = j
        · subst hjk; rw [if_pos rfl, hx]
        · rw [if_neg hjk, hl1.out j (by omega)])
      have n2 := Lib.hid (show ∀ j, j < k + 1 → g ((l.set k x).set (k + 8) y) (j + 8) = g ivL j from fun j hj => by
        rw [g_set _ _ _ _ (by simp; omega)]
        by_cases hjk : k = j
        · subst hjk; rw [if_pos rfl, hy]
        · rw [if_neg (by omega), g_set _ _ _ _ (by omega), if_neg (by omega), hl2.out j (by omega)])
      have n3 : ((l.set k x).set (k + 8) y).length = 16 := by simp [hl]
      have hA2 := (hA.far (by omega : G ≠ G + 1 + 1) (i := k) (.int .u32 (x.toNat : Int))).far (by omega : G ≠ G + 1 + 1) (i := k + 8) (.int .u32 (y.toNat : Int))
      have hR2 := (hR.far (by omega : G + 1 ≠ G + 1 + 1) (i := k) (.int .u32 (x.toNat : Int))).far (by omega : G + 1 ≠ G + 1 + 1) (i := k + 8) (.int .u32 (y.toNat : Int))
      have hV2 := (hV.set k x).set (k + 8) y
      have hB2 := (hB.setCell (p := ⟨G + 1 + 1, k, none⟩) hGle2 (.int .u32 (x.toNat : Int))).setCell (p := ⟨G + 1 + 1, k + 8, none⟩) hGle2 (.int .u32 (y.toNat : Int))
      clear hx hy ho1 ho2 hA hR hV hB hl1 hl2 hI1
      go_wp2_with fail
      go_roundw
      case rel => exact ⟨k + 1, (l.set k x).set (k + 8) y, by omega, by go_num, n3, n1, n2, hA2, hR2, hV2, hB2⟩
      case measure => simp [intOf]; omega
    · have d1 : decide ((k : Int) < 8) = false := decide_eq_false (by omega)
      obtain rfl : k = 8 := by omega
      have hl0 := start0_of hl hh hl1.out hl2.out
      have e1 := hV.cell 12 (by omega)
      have e2 := hV.cell 13 (by omega)
      have e3 := hV.cell 14 (by omega)
      have f1 := hV.froz 12
      have f2 := hV.froz 13
      have f3 := hV.froz 14
      obtain ⟨a, ha⟩ : ∃ x, g l 12 = x := ⟨_, rfl⟩
      obtain ⟨b, hb⟩ : ∃ x, g l 13 = x := ⟨_, rfl⟩
      obtain ⟨c, hc⟩ : ∃ x, g l 14 = x := ⟨_, rfl⟩
      rw [ha] at e1
      rw [hb] at e2
      rw [hc] at e3
      obtain ⟨c0, hc0⟩ : ∃ x : R, BitVec.ofNat 32 count = x := ⟨_, rfl⟩
      obtain ⟨c1, hc1⟩ : ∃ x : R, BitVec.ofNat 32 (count / 4294967296) = x := ⟨_, rfl⟩
      have m0 : (count : Int) % 4294967296 = (c0.toNat : Int) := by rw [← hc0, BitVec.toNat_ofNat]; omega
      have m1 : (count : Int) / 4294967296 = (c1.toNat : Int) := by rw [← hc1, BitVec.toNat_ofNat]; omega
      have g1 := bxr a c0
      have g2 := bxr b c1
      obtain ⟨x0, hx0⟩ : ∃ x, a ^^^ c0 = x := ⟨_, rfl⟩
      obtain ⟨x1, hx1⟩ : ∃ x, b ^^^ c1 = x := ⟨_, rfl⟩
      obtain ⟨x2, hx2⟩ : ∃ x, ~~~ c = x := ⟨_, rfl⟩
      rw [hx0] at g1
      rw [hx1] at g2
      have lc1 := c1.isLt
      have hA2 := (hA.far (by omega : G ≠ G + 1 + 1) (i := 12) (.int .u32 (x0.toNat : Int))).far (by omega : G ≠ G + 1 + 1) (i := 13) (.int .u32 (x1.toNat : Int))
      have hR2 := (hR.far (by omega : G + 1 ≠ G + 1 + 1) (i := 12) (.int .u32 (x0.toNat : Int))).far (by omega : G + 1 ≠ G + 1 + 1) (i := 13) (.int .u32 (x1.toNat : Int))
      have hV2 := (hV.set 12 x0).set 13 x1
      have hB2 := (hB.setCell (p := ⟨G + 1 + 1, 12, none⟩) hGle2 (.int .u32 (x0.toNat : Int))).setCell (p := ⟨G + 1 + 1, 13, none⟩) hGle2 (.int .u32 (x1.toNat : Int))
      have hR3 := hR2.far (by omega : G + 1 ≠ G + 1 + 1) (i := 14) (.int .u32 (x2.toNat : Int))
      have hV3 := hV2.set 14 x2
      have hB3 := hB2.setCell (p := ⟨G + 1 + 1, 14, none⟩) hGle2 (.int .u32 (x2.toNat : Int))
      have hst : startL h count false = (l.set 12 x0).set 13 x1 := by
        subst hl0 ha hb hc0 hc1 hx0 hx1
        show ((start0 h).set 12 (g (start0 h) 12 ^^^ _)).set 13 (g ((start0 h).set 12 _) 13 ^^^ _) = _
        rw [g_set _ _ _ _ (by simp [start0, ivL]), if_neg (by decide)]
      have hst2 : startL h count true = ((l.set 12 x0).set 13 x1).set 14 x2 := by
        have e : startL h count true = (startL h count false).set 14 (~~~ (g (startL h count false) 14)) := rfl
        rw [e, hst, ← hx2, ← hc]
        rw [g_set _ _ _ _ (by simp [hl]), if_neg (by decide), g_set _ _ _ _ (by omega), if_neg (by decide)]
      have hst := Lib.hid hst
      have hst2h := Lib.hid hst2
      have hls : ((l.set 12 x0).set 13 x1).length = 16 := by simp [hl]
      obtain ⟨ls, hlse⟩ : ∃ x, (l.set 12 x0).set 13 x1 = x := ⟨_, rfl⟩
      rw [hlse] at hls hst hst2h hV2 hV3
      have hls2 : (ls.set 14 x2).length = 16 := by simp [hls]
      obtain ⟨lt, hlte⟩ : ∃ x, ls.set 14 x2 = x := ⟨_, rfl⟩
      rw [hlte] at hls2 hst2h hV3
      have gn : bits .xor .u32 (if IntKind.u32.signed = true then -1 else IntKind.u32.max) (c.toNat : Int) = (x2.toNat : Int) := by
        have := bxr 4294967295#32 c
        rw [← hx2, show ~~~ c = 4294967295#32 ^^^ c from BitVec.allOnes_xor.symm]
        exact this
      clear hl0 ha hb hc hc0 hc1 hx0 hx1 hx2 hlse hlte hst2 hA hR hV hB
      have hz16 : (Tryd.prog.info? 48).map (·.size) = some (wvs ls).toArray.size := by rw [info_16w]; simp [wvs_len, hls]
      have hold : (wvs zeros16).toArray.size = (wvs ls).toArray.size := by simp [wvs_len, hls]; rfl
      have hone := wvs_one ls
      have hz16' : (Tryd.prog.info? 48).map (·.size) = some (wvs lt).toArray.size := by rw [info_16w]; simp [wvs_len, hls2]
      have hold' : (wvs zeros16).toArray.size = (wvs lt).toArray.size := by simp [wvs_len, hls2]; rfl
      have hone' := wvs_one lt
      clear hst hz16 hold hone
      have hB9 := below_setRow hB3 (show w.heap.size ≤ G + 1 by omega) (wvs lt).toArray
      have hR9 := setRow_heap _ (G + 1) _ (wvs lt).toArray _ _ hR3
      go_upto_region 12 with (fail)
      go_wp2_with (first | (refine wpList_load_row rfl 48 (.tmp 7) rfl (G + 1 + 1) rfl 48 _ (0, 0) _ hV3 Tryd.underlying48 rfl hz16' ?_) | refine wpList_store_row rfl 48 (.tmp 6) (.tmp 42) rfl (G + 1) _ rfl rfl 48 _ hR3 hz16' hold' hone' ?_)
      exact bodyPost_ret (results_cell_row rfl _ _ (G + 1) 48 _ (0, 0) _ rfl hR9 Tryd.underlying48 rfl hz16') rfl ⟨by rw [hst2h.out], hB9⟩
theorem ovector_any (h : List R) (count : Nat) (last : Bool) (w : World) (hh : h.length = 8) (hcount : count < 18446744073709551616) (hL : Laid w) :
    Calls Tryd.prog 31 #[av h, .int .u64 (count : Int), .bool last] w fun e w' => e = .returned (av (startL h count last)) ∧ Below w.heap.size w w' := by
  cases last
  · exact ovector_false h count w hh hcount hL
  · exact ovector_true h count w hh hcount hL
end Go.Proofs.YtkppepdniehoiaaDoor.B4
