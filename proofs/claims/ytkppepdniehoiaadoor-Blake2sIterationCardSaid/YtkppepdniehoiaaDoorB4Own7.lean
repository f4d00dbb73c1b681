/- The contract of the landed package's compress. -/
import Derived.Test.YtkppepdniehoiaaDoorB4Own6
namespace Go.Proofs.YtkppepdniehoiaaDoor.B4
open Go.RowKit Mem Parts
set_option linter.unusedVariables false
set_option linter.unusedSimpArgs false

theorem ex_assign {o : Oper} {a : Act} {x : Operand} {v : Value} (ho : o.op = .assign x) (hx : a.eval x = v) (w : World) : (execOp a.eval o).run Tryd.prog w = .ok (.value v) w := by
  unfold execOp
  simp only [ho, hx]
  go_simp
def vecV (h : List R) (b : List UInt8) (count : Nat) (last : Bool) : List R := roundsL (wordsL b) 10 (startL h count last)
theorem startL_len (h : List R) (count : Nat) (last : Bool) : (startL h count last).length = 16 := by
  unfold startL
  cases last <;> simp [ivL]
theorem vecV_len (h : List R) (b : List UInt8) (count : Nat) (last : Bool) : (vecV h b count last).length = 16 := by
  unfold vecV
  rw [roundsL_len, startL_len]
theorem cmp_of {h l : List R} {b : List UInt8} {count : Nat} {last : Bool} (hl : l.length = 8) (hj : ∀ j, j < 8 → g l j = g h j ^^^ (g (vecV h b count last) j ^^^ g (vecV h b count last) (j + 8))) : l = cmpL h b count last :=
  g_ext (by rw [hl, cmpL_len]) (fun j => by
    by_cases h8 : j < 8
    · rw [hj j h8]
      unfold cmpL
      simp only [g, List.getD, List.getElem?_map, List.getElem?_range h8, Option.map_some, Option.getD_some]
      rw [BitVec.xor_assoc]
      rfl
    · rw [g_big _ _ (by omega), g_big _ _ (by rw [cmpL_len]; omega)])

def INC (w : World) (h : List R) (V : List R) (G Gv : Nat) (a : Act) (wr : World) : Prop :=
  ∃ (k : Nat) (l : List R), k ≤ 8 ∧ a.tmps.size = 36 ∧ a.defers = [] ∧ At a 4 (.pointer (some ⟨G, 0, none⟩)) ∧ At a 8 (.pointer (some ⟨G + 1 + 1, 0, none⟩)) ∧ At a 9 (.pointer (some ⟨Gv, 0, none⟩)) ∧ At a 18 (.int .i64 (k : Int)) ∧
    l.length = 8 ∧ (∀ j, j < k → g l j = g h j ^^^ (g V j ^^^ g V (j + 8))) ∧ (∀ j, k ≤ j → g l j = g h j) ∧ Arr 32 wr G l ∧ Arr 48 wr Gv V ∧ Arr 32 wr (G + 1 + 1) zeros8 ∧ Below w.heap.size w wr
def MUC (a : Act) (_ : World) : Nat := 8 - (intOf (a.eval (.tmp 18))).toNat

set_option maxRecDepth 100000 in
set_option maxHeartbeats 4000000 in
theorem ocompress_any (h : List R) (b : List UInt8) (count : Nat) (last : Bool) (w : World) (hh : h.length = 8) (hb : b.length = 64) (hcount : count < 18446744073709551616) (hL : Laid w) :
    Calls Tryd.prog 22 #[av h, .agg (bys b).toArray, .int .u64 (count : Int), .bool last] w fun e w' => e = .returned (av (cmpL h b count last)) ∧ Below w.heap.size w w' := by
  have hsz : (wvs h).toArray.size = 8 := by simp [wvs_len, hh]
  have hszb : (bys b).toArray.size = 64 := by simp [bys_len, hb]
  have hA0 : Arr 32 (((w.alloc (.cells (wvs h).toArray 32)).alloc (.cells (bys b).toArray 44)).alloc (.cells (wvs zeros8).toArray 32)) w.heap.size h := arr_old (arr_old (arr_new w h _) _) _
  have hK0 : Aby 44 (((w.alloc (.cells (wvs h).toArray 32)).alloc (.cells (bys b).toArray 44)).alloc (.cells (wvs zeros8).toArray 32)) (w.heap.size + 1) b := by
    have := heap_alloc_new (w.alloc (.cells (wvs h).toArray 32)) (.cells (bys b).toArray 44)
    rw [show (w.alloc (.cells (wvs h).toArray 32)).heap.size = w.heap.size + 1 by simp] at this
    exact Aby.below this ((Below.refl _ _).alloc (Nat.le_refl _) _)
  have hR0 : Arr 32 (((w.alloc (.cells (wvs h).toArray 32)).alloc (.cells (bys b).toArray 44)).alloc (.cells (wvs zeros8).toArray 32)) (w.heap.size + 1 + 1) zeros8 := by
    have := arr_new ((w.alloc (.cells (wvs h).toArray 32)).alloc (.cells (bys b).toArray 44)) zeros8 32
    rw [show ((w.alloc (.cells (wvs h).toArray 32)).alloc (.cells (bys b).toArray 44)).heap.size = w.heap.size + 1 + 1 by simp] at this
    exact this
  have hB0 : Below w.heap.size w (((w.alloc (.cells (wvs h).toArray 32)).alloc (.cells (bys b).toArray 44)).alloc (.cells (wvs zeros8).toArray 32)) := (((Below.refl _ _).alloc (Nat.le_refl _) _).alloc (by simp) _).alloc (by simp; omega) _
  unfold av
  go_enter Tryd.func22, Tryd.ntmps22
  go_wp2_with fail
  change Code.wp _ _ _ _ (((w.alloc (.cells (wvs h).toArray 32)).alloc (.cells (bys b).toArray 44)).alloc (.cells (wvs zeros8).toArray 32))
  generalize (((w.alloc (.cells (wvs h).toArray 32)).alloc (.cells (bys b).toArray 44)).alloc (.cells (wvs zeros8).toArray 32)) = w0 at hA0 hK0 hR0 hB0 ⊢
  obtain ⟨G, hG⟩ : ∃ G, w.heap.size = G := ⟨_, rfl⟩
  have hGle : w.heap.size ≤ G := by omega
  rw [hG] at hA0 hK0 hR0 ⊢
  have hL0 := hL.below hB0
  rename_i Qf Kf hKf
  have hz8 : ∀ l : List R, l.length = 8 → (Tryd.prog.info? 32).map (·.size) = some (wvs l).toArray.size := fun l hl => by rw [info_8w]; simp [wvs_len, hl]
  have hz16 : ∀ l : List R, l.length = 16 → (Tryd.prog.info? 48).map (·.size) = some (wvs l).toArray.size := fun l hl => by rw [info_16w]; simp [wvs_len, hl]
  have hz64 : (Tryd.prog.info? 44).map (·.size) = some (bys b).toArray.size := by
    have : (Tryd.prog.info? 44).map (·.size) = some 64 := by kernel_rfl
    rw [this]; simp [bys_len, hb]
  have hVl := vecV_len h b count last
  have hfin : ∀ (Gv : Nat) (W : World) (a : Act), a.tmps.size = 36 → a.defers = [] → At a 4 (.pointer (some ⟨G, 0, none⟩)) → At a 8 (.pointer (some ⟨G + 1 + 1, 0, none⟩)) → At a 9 (.pointer (some ⟨Gv, 0, none⟩)) → Arr 32 W G h → Arr 48 W Gv (vecV h b count last) → Arr 32 W (G + 1 + 1) zeros8 → G ≠ Gv → G + 1 + 1 ≠ Gv → Below w.heap.size w W → Kf a W := by
    clear hA0 hK0 hR0 hB0 hL0
    intro Gv W a hsz hdf h4 h8 h9 hA hV hR hne1 hne2 hB
    refine hKf _ _ ?_
    refine wp_seq ?_
    refine wp_seq ?_
    refine wp_region_lit ?_
    refine list_val rfl (ex_move (v := .int .i64 ((0 : Nat) : Int)) rfl rfl _) ?_
    refine wpList_nil ?_
    show Code.wp _ _ _ (a.put (some 18) (.int .i64 ((0 : Nat) : Int))) W
    refine wp_block ?_
    refine wp_loop (INC w h (vecV h b count last) G Gv) MUC ⟨0, h, by omega, by rw [put_size]; exact hsz, hdf, h4.ne (by decide) _, h8.ne (by decide) _, h9.ne (by decide) _, At.put (by omega) _, hh, fun j hj => by omega, fun j _ => rfl, hA, hV, hR, hB⟩ (fun a wr hI => ?_)
    clear hsz hdf h4 h8 h9 hA hV hR hB
    obtain ⟨k, l, hk, hsz, hdf, h4, h8, h9, h18, hl, hl1, hl2, hA, hV, hR, hB⟩ := hI
    have hmu : MUC a wr = 8 - k := by unfold MUC; rw [h18.eval]; simp [intOf]
    rw [hmu]
    clear hmu
    refine wp_seq ?_
    refine wp_region_lit ?_
    refine list_val rfl (ex_less rfl h18 _) ?_
    refine wpList_nil ?_
    show Code.wp _ _ _ (a.put (some 19) (.bool (decide (k < 8)))) wr
    have S0 := (Same.refl a 0 1000).put (n := 19) (by omega) (by omega) (.bool (decide (k < 8)))
    have hcond := At.put (a := a) (n := 19) (by omega) (.bool (decide (k < 8)))
    have hs36 := hsz
    by_cases hlt : k < 8
    · rw [decide_eq_true hlt] at S0 hcond ⊢
      have y4 := h4.ne (n := 19) (by decide) (.bool true)
      have y8 := h8.ne (n := 19) (by decide) (.bool true)
      have y9 := h9.ne (n := 19) (by decide) (.bool true)
      have y18 := h18.ne (n := 19) (by decide) (.bool true)
      generalize a.put (some 19) (.bool true) = a0 at S0 hcond y4 y8 y9 y18 ⊢
      refine wp_seq ?_
      refine wp_cond_true hcond.eval ?_
      refine wp_skip ?_
      show Code.wp _ _ _ a0 wr
      refine wp_seq ?_
      refine wp_block ?_
      refine wp_seq ?_
      refine wp_region_lit ?_
      have e1 := hA.drew.cell k (by omega)
      have e2 := hV.drew.cell k (by omega)
      have e3 := hV.drew.cell (k + 8) (by omega)
      have f1 := hA.drew.froz k
      rw [hl2 k (Nat.le_refl k)] at e1
      refine list_val rfl (ex_move rfl y18.eval _) ?_
      show wpList _ _ _ _ (a0.put (some 20) (.int .i64 (k : Int))) _
      have f1_4 := y4.ne (n := 20) (by decide) (.int .i64 (k : Int))
      have f1_8 := y8.ne (n := 20) (by decide) (.int .i64 (k : Int))
      have f1_9 := y9.ne (n := 20) (by decide) (.int .i64 (k : Int))
      have f1_18 := y18.ne (n := 20) (by decide) (.int .i64 (k : Int))
      have f1_20 := At.put (a := a0) (n := 20) (by rw [S0.1]; omega) (.int .i64 (k : Int))
      have S1 := S0.put (n := 20) (by decide) (by decide) (.int .i64 (k : Int))
      generalize a0.put (some 20) (.int .i64 (k : Int)) = a1 at S1 f1_4 f1_8 f1_9 f1_18 f1_20 ⊢
      refine list_val rfl (ex_assign rfl f1_20.eval _) ?_
      show wpList _ _ _ _ (a1.put (some 10) (.int .i64 (k : Int))) _
      have f2_4 := f1_4.ne (n := 10) (by decide) (.int .i64 (k : Int))
      have f2_8 := f1_8.ne (n := 10) (by decide) (.int .i64 (k : Int))
      have f2_9 := f1_9.ne (n := 10) (by decide) (.int .i64 (k : Int))
      have f2_18 := f1_18.ne (n := 10) (by decide) (.int .i64 (k : Int))
      have f2_10 := At.put (a := a1) (n := 10) (by rw [S1.1, hs36]; decide) (.int .i64 (k : Int))
      have S2 := S1.put (n := 10) (by decide) (by decide) (.int .i64 (k : Int))
      generalize a1.put (some 10) (.int .i64 (k : Int)) = a2 at S2 f2_4 f2_8 f2_9 f2_18 f2_10 ⊢
      refine wpList_nil ?_
      show Code.wp _ _ _ a2 wr
      refine wp_region_still_tail 13 (by kernel_rfl) (by kernel_rfl) ?_
      simp only [List.take_succ_cons, List.take_zero, List.drop_succ_cons, List.drop_zero]
      refine still_val (v := (.int .i64 (k : Int))) rfl (ex_move rfl f2_10.eval _) ?_
      show wpStill _ _ _ _ _ (a2.put (some 21) (.int .i64 (k : Int)))
      have f3_4 := f2_4.ne (n := 21) (by decide) (.int .i64 (k : Int))
      have f3_8 := f2_8.ne (n := 21) (by decide) (.int .i64 (k : Int))
      have f3_9 := f2_9.ne (n := 21) (by decide) (.int .i64 (k : Int))
      have f3_18 := f2_18.ne (n := 21) (by decide) (.int .i64 (k : Int))
      have f3_10 := f2_10.ne (n := 21) (by decide) (.int .i64 (k : Int))
      have f3_21 := At.put (a := a2) (n := 21) (by rw [S2.1, hs36]; decide) (.int .i64 (k : Int))
      have S3 := S2.put (n := 21) (by decide) (by decide) (.int .i64 (k : Int))
      generalize a2.put (some 21) (.int .i64 (k : Int)) = a3 at S3 f3_4 f3_8 f3_9 f3_18 f3_10 f3_21 ⊢
      refine still_val (v := (.pointer (some ⟨G, k, none⟩))) rfl (ex_idx8 rfl f3_4.eval f3_21.eval hlt _) ?_
      show wpStill _ _ _ _ _ (a3.put (some 22) (.pointer (some ⟨G, k, none⟩)))
      have f4_4 := f3_4.ne (n := 22) (by decide) (.pointer (some ⟨G, k, none⟩))
      have f4_8 := f3_8.ne (n := 22) (by decide) (.pointer (some ⟨G, k, none⟩))
      have f4_9 := f3_9.ne (n := 22) (by decide) (.pointer (some ⟨G, k, none⟩))
      have f4_18 := f3_18.ne (n := 22) (by decide) (.pointer (some ⟨G, k, none⟩))
      have f4_10 := f3_10.ne (n := 22) (by decide) (.pointer (some ⟨G, k, none⟩))
      have f4_21 := f3_21.ne (n := 22) (by decide) (.pointer (some ⟨G, k, none⟩))
      have f4_22 := At.put (a := a3) (n := 22) (by rw [S3.1, hs36]; decide) (.pointer (some ⟨G, k, none⟩))
      have S4 := S3.put (n := 22) (by decide) (by decide) (.pointer (some ⟨G, k, none⟩))
      generalize a3.put (some 22) (.pointer (some ⟨G, k, none⟩)) = a4 at S4 f4_4 f4_8 f4_9 f4_18 f4_10 f4_21 f4_22 ⊢
      refine still_val (v := (wv (g h k))) rfl (ex_load32 rfl f4_22.eval e1) ?_
      show wpStill _ _ _ _ _ (a4.put (some 23) (wv (g h k)))
      have f5_4 := f4_4.ne (n := 23) (by decide) (wv (g h k))
      have f5_8 := f4_8.ne (n := 23) (by decide) (wv (g h k))
      have f5_9 := f4_9.ne (n := 23) (by decide) (wv (g h k))
      have f5_18 := f4_18.ne (n := 23) (by decide) (wv (g h k))
      have f5_10 := f4_10.ne (n := 23) (by decide) (wv (g h k))
      have f5_21 := f4_21.ne (n := 23) (by decide) (wv (g h k))
      have f5_23 := At.put (a := a4) (n := 23) (by rw [S4.1, hs36]; decide) (wv (g h k))
      have S5 := S4.put (n := 23) (by decide) (by decide) (wv (g h k))
      generalize a4.put (some 23) (wv (g h k)) = a5 at S5 f5_4 f5_8 f5_9 f5_18 f5_10 f5_21 f5_23 ⊢
      refine still_val (v := (.int .i64 (k : Int))) rfl (ex_move rfl f5_10.eval _) ?_
      show wpStill _ _ _ _ _ (a5.put (some 24) (.int .i64 (k : Int)))
      have f6_4 := f5_4.ne (n := 24) (by decide) (.int .i64 (k : Int))
      have f6_8 := f5_8.ne (n := 24) (by decide) (.int .i64 (k : Int))
      have f6_9 := f5_9.ne (n := 24) (by decide) (.int .i64 (k : Int))
      have f6_18 := f5_18.ne (n := 24) (by decide) (.int .i64 (k : Int))
      have f6_10 := f5_10.ne (n := 24) (by decide) (.int .i64 (k : Int))
      have f6_21 := f5_21.ne (n := 24) (by decide) (.int .i64 (k : Int))
      have f6_23 := f5_23.ne (n := 24) (by decide) (.int .i64 (k : Int))
      have f6_24 := At.put (a := a5) (n := 24) (by rw [S5.1, hs36]; decide) (.int .i64 (k : Int))
      have S6 := S5.put (n := 24) (by decide) (by decide) (.int .i64 (k : Int))
      generalize a5.put (some 24) (.int .i64 (k : Int)) = a6 at S6 f6_4 f6_8 f6_9 f6_18 f6_10 f6_21 f6_23 f6_24 ⊢
      refine still_val (v := (.pointer (some ⟨Gv, k, none⟩))) rfl (ex_idx16 rfl f6_9.eval f6_24.eval (by omega) _) ?_
      show wpStill _ _ _ _ _ (a6.put (some 25) (.pointer (some ⟨Gv, k, none⟩)))
      have f7_4 := f6_4.ne (n := 25) (by decide) (.pointer (some ⟨Gv, k, none⟩))
      have f7_8 := f6_8.ne (n := 25) (by decide) (.pointer (some ⟨Gv, k, none⟩))
      have f7_9 := f6_9.ne (n := 25) (by decide) (.pointer (some ⟨Gv, k, none⟩))
      have f7_18 := f6_18.ne (n := 25) (by decide) (.pointer (some ⟨Gv, k, none⟩))
      have f7_10 := f6_10.ne (n := 25) (by decide) (.pointer (some ⟨Gv, k, none⟩))
      have f7_21 := f6_21.ne (n := 25) (by decide) (.pointer (some ⟨Gv, k, none⟩))
      have f7_23 := f6_23.ne (n := 25) (by decide) (.pointer (some ⟨Gv, k, none⟩))
      have f7_25 := At.put (a := a6) (n := 25) (by rw [S6.1, hs36]; decide) (.pointer (some ⟨Gv, k, none⟩))
      have S7 := S6.put (n := 25) (by decide) (by decide) (.pointer (some ⟨Gv, k, none⟩))
      generalize a6.put (some 25) (.pointer (some ⟨Gv, k, none⟩)) = a7 at S7 f7_4 f7_8 f7_9 f7_18 f7_10 f7_21 f7_23 f7_25 ⊢
      refine still_val (v := (wv (g (vecV h b count last) k))) rfl (ex_load32 rfl f7_25.eval e2) ?_
      show wpStill _ _ _ _ _ (a7.put (some 26) (wv (g (vecV h b count last) k)))
      have f8_4 := f7_4.ne (n := 26) (by decide) (wv (g (vecV h b count last) k))
      have f8_8 := f7_8.ne (n := 26) (by decide) (wv (g (vecV h b count last) k))
      have f8_9 := f7_9.ne (n := 26) (by decide) (wv (g (vecV h b count last) k))
      have f8_18 := f7_18.ne (n := 26) (by decide) (wv (g (vecV h b count last) k))
      have f8_10 := f7_10.ne (n := 26) (by decide) (wv (g (vecV h b count last) k))
      have f8_21 := f7_21.ne (n := 26) (by decide) (wv (g (vecV h b count last) k))
      have f8_23 := f7_23.ne (n := 26) (by decide) (wv (g (vecV h b count last) k))
      have f8_26 := At.put (a := a7) (n := 26) (by rw [S7.1, hs36]; decide) (wv (g (vecV h b count last) k))
      have S8 := S7.put (n := 26) (by decide) (by decide) (wv (g (vecV h b count last) k))
      generalize a7.put (some 26) (wv (g (vecV h b count last) k)) = a8 at S8 f8_4 f8_8 f8_9 f8_18 f8_10 f8_21 f8_23 f8_26 ⊢
      refine still_val (v := (.int .i64 (k : Int))) rfl (ex_move rfl f8_10.eval _) ?_
      show wpStill _ _ _ _ _ (a8.put (some 27) (.int .i64 (k : Int)))
      have f9_4 := f8_4.ne (n := 27) (by decide) (.int .i64 (k : Int))
      have f9_8 := f8_8.ne (n := 27) (by decide) (.int .i64 (k : Int))
      have f9_9 := f8_9.ne (n := 27) (by decide) (.int .i64 (k : Int))
      have f9_18 := f8_18.ne (n := 27) (by decide) (.int .i64 (k : Int))
      have f9_21 := f8_21.ne (n := 27) (by decide) (.int .i64 (k : Int))
      have f9_23 := f8_23.ne (n := 27) (by decide) (.int .i64 (k : Int))
      have f9_26 := f8_26.ne (n := 27) (by decide) (.int .i64 (k : Int))
      have f9_27 := At.put (a := a8) (n := 27) (by rw [S8.1, hs36]; decide) (.int .i64 (k : Int))
      have S9 := S8.put (n := 27) (by decide) (by decide) (.int .i64 (k : Int))
      generalize a8.put (some 27) (.int .i64 (k : Int)) = a9 at S9 f9_4 f9_8 f9_9 f9_18 f9_21 f9_23 f9_26 f9_27 ⊢
      refine still_val (v := (.int .i64 ((k + 8 : Nat) : Int))) rfl (ex_add (c := 8) rfl f9_27 (by omega) (by omega) _) ?_
      show wpStill _ _ _ _ _ (a9.put (some 28) (.int .i64 ((k + 8 : Nat) : Int)))
      have f10_4 := f9_4.ne (n := 28) (by decide) (.int .i64 ((k + 8 : Nat) : Int))
      have f10_8 := f9_8.ne (n := 28) (by decide) (.int .i64 ((k + 8 : Nat) : Int))
      have f10_9 := f9_9.ne (n := 28) (by decide) (.int .i64 ((k + 8 : Nat) : Int))
      have f10_18 := f9_18.ne (n := 28) (by decide) (.int .i64 ((k + 8 : Nat) : Int))
      have f10_21 := f9_21.ne (n := 28) (by decide) (.int .i64 ((k + 8 : Nat) : Int))
      have f10_23 := f9_23.ne (n := 28) (by decide) (.int .i64 ((k + 8 : Nat) : Int))
      have f10_26 := f9_26.ne (n := 28) (by decide) (.int .i64 ((k + 8 : Nat) : Int))
      have f10_28 := At.put (a := a9) (n := 28) (by rw [S9.1, hs36]; decide) (.int .i64 ((k + 8 : Nat) : Int))
      have S10 := S9.put (n := 28) (by decide) (by decide) (.int .i64 ((k + 8 : Nat) : Int))
      generalize a9.put (some 28) (.int .i64 ((k + 8 : Nat) : Int)) = a10 at S10 f10_4 f10_8 f10_9 f10_18 f10_21 f10_23 f10_26 f10_28 ⊢
      refine still_val (v := (.pointer (some ⟨Gv, (k + 8), none⟩))) rfl (ex_idx16 rfl f10_9.eval f10_28.eval (by omega) _) ?_
      show wpStill _ _ _ _ _ (a10.put (some 29) (.pointer (some ⟨Gv, (k + 8), none⟩)))
      have f11_4 := f10_4.ne (n := 29) (by decide) (.pointer (some ⟨Gv, (k + 8), none⟩))
      have f11_8 := f10_8.ne (n := 29) (by decide) (.pointer (some ⟨Gv, (k + 8), none⟩))
      have f11_9 := f10_9.ne (n := 29) (by decide) (.pointer (some ⟨Gv, (k + 8), none⟩))
      have f11_18 := f10_18.ne (n := 29) (by decide) (.pointer (some ⟨Gv, (k + 8), none⟩))
      have f11_21 := f10_21.ne (n := 29) (by decide) (.pointer (some ⟨Gv, (k + 8), none⟩))
      have f11_23 := f10_23.ne (n := 29) (by decide) (.pointer (some ⟨Gv, (k + 8), none⟩))
      have f11_26 := f10_26.ne (n := 29) (by decide) (.pointer (some ⟨Gv, (k + 8), none⟩))
      have f11_29 := At.put (a := a10) (n := 29) (by rw [S10.1, hs36]; decide) (.pointer (some ⟨Gv, (k + 8), none⟩))
      have S11 := S10.put (n := 29) (by decide) (by decide) (.pointer (some ⟨Gv, (k + 8), none⟩))
      generalize a10.put (some 29) (.pointer (some ⟨Gv, (k + 8), none⟩)) = a11 at S11 f11_4 f11_8 f11_9 f11_18 f11_21 f11_23 f11_26 f11_29 ⊢
      refine still_val (v := (wv (g (vecV h b count last) (k + 8)))) rfl (ex_load32 rfl f11_29.eval e3) ?_
      show wpStill _ _ _ _ _ (a11.put (some 30) (wv (g (vecV h b count last) (k + 8))))
      have f12_4 := f11_4.ne (n := 30) (by decide) (wv (g (vecV h b count last) (k + 8)))
      have f12_8 := f11_8.ne (n := 30) (by decide) (wv (g (vecV h b count last) (k + 8)))
      have f12_9 := f11_9.ne (n := 30) (by decide) (wv (g (vecV h b count last) (k + 8)))
      have f12_18 := f11_18.ne (n := 30) (by decide) (wv (g (vecV h b count last) (k + 8)))
      have f12_21 := f11_21.ne (n := 30) (by decide) (wv (g (vecV h b count last) (k + 8)))
      have f12_23 := f11_23.ne (n := 30) (by decide) (wv (g (vecV h b count last) (k + 8)))
      have f12_26 := f11_26.ne (n := 30) (by decide) (wv (g (vecV h b count last) (k + 8)))
      have f12_30 := At.put (a := a11) (n := 30) (by rw [S11.1, hs36]; decide) (wv (g (vecV h b count last) (k + 8)))
      have S12 := S11.put (n := 30) (by decide) (by decide) (wv (g (vecV h b count last) (k + 8)))
      generalize a11.put (some 30) (wv (g (vecV h b count last) (k + 8))) = a12 at S12 f12_4 f12_8 f12_9 f12_18 f12_21 f12_23 f12_26 f12_30 ⊢
      refine still_val (v := (wv (g (vecV h b count last) k ^^^ g (vecV h b count last) (k + 8)))) rfl (ex_xor rfl f12_26 f12_30 _) ?_
      show wpStill _ _ _ _ _ (a12.put (some 31) (wv (g (vecV h b count last) k ^^^ g (vecV h b count last) (k + 8))))
      have f13_4 := f12_4.ne (n := 31) (by decide) (wv (g (vecV h b count last) k ^^^ g (vecV h b count last) (k + 8)))
      have f13_8 := f12_8.ne (n := 31) (by decide) (wv (g (vecV h b count last) k ^^^ g (vecV h b count last) (k + 8)))
      have f13_9 := f12_9.ne (n := 31) (by decide) (wv (g (vecV h b count last) k ^^^ g (vecV h b count last) (k + 8)))
      have f13_18 := f12_18.ne (n := 31) (by decide) (wv (g (vecV h b count last) k ^^^ g (vecV h b count last) (k + 8)))
      have f13_21 := f12_21.ne (n := 31) (by decide) (wv (g (vecV h b count last) k ^^^ g (vecV h b count last) (k + 8)))
      have f13_23 := f12_23.ne (n := 31) (by decide) (wv (g (vecV h b count last) k ^^^ g (vecV h b count last) (k + 8)))
      have f13_31 := At.put (a := a12) (n := 31) (by rw [S12.1, hs36]; decide) (wv (g (vecV h b count last) k ^^^ g (vecV h b count last) (k + 8)))
      have S13 := S12.put (n := 31) (by decide) (by decide) (wv (g (vecV h b count last) k ^^^ g (vecV h b count last) (k + 8)))
      generalize a12.put (some 31) (wv (g (vecV h b count last) k ^^^ g (vecV h b count last) (k + 8))) = a13 at S13 f13_4 f13_8 f13_9 f13_18 f13_21 f13_23 f13_31 ⊢
      refine still_val (v := (wv (g h k ^^^ (g (vecV h b count last) k ^^^ g (vecV h b count last) (k + 8))))) rfl (ex_xor rfl f13_23 f13_31 _) ?_
      show wpStill _ _ _ _ _ (a13.put (some 32) (wv (g h k ^^^ (g (vecV h b count last) k ^^^ g (vecV h b count last) (k + 8)))))
      have f14_4 := f13_4.ne (n := 32) (by decide) (wv (g h k ^^^ (g (vecV h b count last) k ^^^ g (vecV h b count last) (k + 8))))
      have f14_8 := f13_8.ne (n := 32) (by decide) (wv (g h k ^^^ (g (vecV h b count last) k ^^^ g (vecV h b count last) (k + 8))))
      have f14_9 := f13_9.ne (n := 32) (by decide) (wv (g h k ^^^ (g (vecV h b count last) k ^^^ g (vecV h b count last) (k + 8))))
      have f14_18 := f13_18.ne (n := 32) (by decide) (wv (g h k ^^^ (g (vecV h b count last) k ^^^ g (vecV h b count last) (k + 8))))
      have f14_21 := f13_21.ne (n := 32) (by decide) (wv (g h k ^^^ (g (vecV h b count last) k ^^^ g (vecV h b count last) (k + 8))))
      have f14_32 := At.put (a := a13) (n := 32) (by rw [S13.1, hs36]; decide) (wv (g h k ^^^ (g (vecV h b count last) k ^^^ g (vecV h b count last) (k + 8))))
      have S14 := S13.put (n := 32) (by decide) (by decide) (wv (g h k ^^^ (g (vecV h b count last) k ^^^ g (vecV h b count last) (k + 8))))
      generalize a13.put (some 32) (wv (g h k ^^^ (g (vecV h b count last) k ^^^ g (vecV h b count last) (k + 8)))) = a14 at S14 f14_4 f14_8 f14_9 f14_18 f14_21 f14_32 ⊢
      refine still_val (v := (.pointer (some ⟨G, k, none⟩))) rfl (ex_idx8 rfl f14_4.eval f14_21.eval hlt _) ?_
      show wpStill _ _ _ _ _ (a14.put (some 33) (.pointer (some ⟨G, k, none⟩)))
      have f15_4 := f14_4.ne (n := 33) (by decide) (.pointer (some ⟨G, k, none⟩))
      have f15_8 := f14_8.ne (n := 33) (by decide) (.pointer (some ⟨G, k, none⟩))
      have f15_9 := f14_9.ne (n := 33) (by decide) (.pointer (some ⟨G, k, none⟩))
      have f15_18 := f14_18.ne (n := 33) (by decide) (.pointer (some ⟨G, k, none⟩))
      have f15_32 := f14_32.ne (n := 33) (by decide) (.pointer (some ⟨G, k, none⟩))
      have f15_33 := At.put (a := a14) (n := 33) (by rw [S14.1, hs36]; decide) (.pointer (some ⟨G, k, none⟩))
      have S15 := S14.put (n := 33) (by decide) (by decide) (.pointer (some ⟨G, k, none⟩))
      generalize a14.put (some 33) (.pointer (some ⟨G, k, none⟩)) = a15 at S15 f15_4 f15_8 f15_9 f15_18 f15_32 f15_33 ⊢
      refine wpStill_nil ?_
      refine list_skip rfl rfl (ex_store32 rfl f15_33.eval f15_32.eval e1 f1) ?_
      refine wpList_nil ?_
      show Code.wp _ _ _ a15 (wr.drew.setCell ⟨G, k, none⟩ (wv (g h k ^^^ (g (vecV h b count last) k ^^^ g (vecV h b count last) (k + 8)))))
      have hA2 := hA.drew.set k (g h k ^^^ (g (vecV h b count last) k ^^^ g (vecV h b count last) (k + 8)))
      have hV2 := hV.drew.far hne1.symm (i := k) (wv (g h k ^^^ (g (vecV h b count last) k ^^^ g (vecV h b count last) (k + 8))))
      have hR2 := hR.drew.far (by omega : G + 1 + 1 ≠ G) (i := k) (wv (g h k ^^^ (g (vecV h b count last) k ^^^ g (vecV h b count last) (k + 8))))
      have hB2 := hB.drew.setCell (p := ⟨G, k, none⟩) hGle (wv (g h k ^^^ (g (vecV h b count last) k ^^^ g (vecV h b count last) (k + 8))))
      obtain ⟨x, hx⟩ : ∃ x, g h k ^^^ (g (vecV h b count last) k ^^^ g (vecV h b count last) (k + 8)) = x := ⟨_, rfl⟩
      rw [hx] at hA2 hV2 hR2 hB2 ⊢
      refine wp_region_lit ?_
      refine list_val rfl (ex_next rfl f15_18 (by omega) _) ?_
      show wpList _ _ _ _ (a15.put (some 34) (.int .i64 ((k + 1 : Nat) : Int))) _
      have f16_4 := f15_4.ne (n := 34) (by decide) (.int .i64 ((k + 1 : Nat) : Int))
      have f16_8 := f15_8.ne (n := 34) (by decide) (.int .i64 ((k + 1 : Nat) : Int))
      have f16_9 := f15_9.ne (n := 34) (by decide) (.int .i64 ((k + 1 : Nat) : Int))
      have f16_18 := f15_18.ne (n := 34) (by decide) (.int .i64 ((k + 1 : Nat) : Int))
      have f16_34 := At.put (a := a15) (n := 34) (by rw [S15.1, hs36]; decide) (.int .i64 ((k + 1 : Nat) : Int))
      have S16 := S15.put (n := 34) (by decide) (by decide) (.int .i64 ((k + 1 : Nat) : Int))
      generalize a15.put (some 34) (.int .i64 ((k + 1 : Nat) : Int)) = a16 at S16 f16_4 f16_8 f16_9 f16_18 f16_34 ⊢
      refine list_val rfl (ex_move rfl f16_34.eval _) ?_
      show wpList _ _ _ _ (a16.put (some 18) (.int .i64 ((k + 1 : Nat) : Int))) _
      have f17_4 := f16_4.ne (n := 18) (by decide) (.int .i64 ((k + 1 : Nat) : Int))
      have f17_8 := f16_8.ne (n := 18) (by decide) (.int .i64 ((k + 1 : Nat) : Int))
      have f17_9 := f16_9.ne (n := 18) (by decide) (.int .i64 ((k + 1 : Nat) : Int))
      have f17_18 := At.put (a := a16) (n := 18) (by rw [S16.1, hs36]; decide) (.int .i64 ((k + 1 : Nat) : Int))
      have S17 := S16.put (n := 18) (by decide) (by decide) (.int .i64 ((k + 1 : Nat) : Int))
      generalize a16.put (some 18) (.int .i64 ((k + 1 : Nat) : Int)) = a17 at S17 f17_4 f17_8 f17_9 f17_18 ⊢
      refine wpList_nil ?_
      show INC w h (vecV h b count last) G Gv a17 _ ∧ MUC a17 _ < 8 - k
      refine ⟨⟨k + 1, l.set k x, by omega, by rw [S17.1, hs36], by rw [S17.2.1, hdf], f17_4, f17_8, f17_9, f17_18, by simp [hl], fun j hj => ?_, fun j hj => ?_, hA2, hV2, hR2, hB2⟩, ?_⟩
      · rw [g_set _ _ _ _ (by omega)]
        by_cases hjk : k = j
        · subst hjk; rw [if_pos rfl, hx]
        · rw [if_neg hjk, hl1 j (by omega)]
      · rw [g_set _ _ _ _ (by omega), if_neg (by omega), hl2 j (by omega)]
      · unfold MUC
        rw [f17_18.eval]
        simp only [intOf]
        omega
    · obtain rfl : k = 8 := by omega
      rw [decide_eq_false hlt] at S0 hcond ⊢
      have y4 := h4.ne (n := 19) (by decide) (.bool false)
      have y8 := h8.ne (n := 19) (by decide) (.bool false)
      generalize a.put (some 19) (.bool false) = a0 at S0 hcond y4 y8 ⊢
      refine wp_seq ?_
      refine wp_cond_false hcond.eval ?_
      refine wp_exit ?_
      show Code.wp _ _ _ a0 wr
      have hfl := cmp_of hl hl1
      have hold : (wvs zeros8).toArray.size = (wvs l).toArray.size := by simp [wvs_len, hl]; rfl
      have hR9 := setRow_heap _ (G + 1 + 1) _ (wvs l).toArray _ _ hR
      have hB9 := below_setRow hB (show w.heap.size ≤ G + 1 + 1 by omega) (wvs l).toArray
      refine wp_seq ?_
      refine wp_region_lit ?_
      refine list_val rfl (ex_loadrow rfl y4.eval hA Tryd.underlying32 (hz8 l hl)) ?_
      have z8 := y8.ne (n := 35) (by decide) (.agg (wvs l).toArray)
      have z35 := At.put (a := a0) (n := 35) (by rw [S0.1, hs36]; decide) (.agg (wvs l).toArray)
      refine list_skip rfl rfl (ex_storerow rfl z8.eval z35.eval hR (hz8 l hl) hold (wvs_one l)) ?_
      refine wpList_nil ?_
      refine wp_ret ?_
      exact bodyPost_ret (results_cell_row rfl _ _ (G + 1 + 1) 32 _ (0, 0) _ z8.eval hR9 Tryd.underlying32 rfl (hz8 l hl)) (S0.2.1.trans hdf) ⟨by rw [hfl], hB9⟩
  have hA1 := hA0.drew
  have hK1 := hK0.drew
  have hR1 := hR0.drew
  have hB1 := hB0.drew
  have hL1 := hL0.below ((Below.refl w0.heap.size w0).drew)
  clear hA0 hK0 hR0 hB0
  refine wp_at (fun a ha => ?_)
  have y2 : At a 2 (.int .u64 (count : Int)) := by rw [ha]; rfl
  have y3 : At a 3 (.bool last) := by rw [ha]; rfl
  have y4 : At a 4 (.pointer (some ⟨G, 0, none⟩)) := by rw [ha]; rfl
  have y5 : At a 5 (.pointer (some ⟨G + 1, 0, none⟩)) := by rw [ha]; rfl
  have y8 : At a 8 (.pointer (some ⟨G + 1 + 1, 0, none⟩)) := by rw [ha]; rfl
  have hs36 : a.tmps.size = 36 := by rw [ha]; rfl
  have hdf : a.defers = [] := by rw [ha]
  have S0 := Same.refl a 0 1000
  clear ha
  refine wp_region_noPanic ?_
  refine wp_region_held_drew (S := fun W => W.heap[G]? = some (.cells (wvs h).toArray 32 (0, 0)) ∧ W.heap[G + 1]? = some (.cells (bys b).toArray 44 (0, 0))) (by kernel_rfl) ⟨hA1, hK1⟩ (fun hHeld => ?_)
  refine wpAnyH_take (i := 0) (oi := ⟨some 11, _, _, _, _, _⟩) (v := (.agg (wvs h).toArray)) rfl (by kernel_rfl) (by kernel_rfl) (by kernel_rfl) (fun _ _ _ h => h) (yieldsIf_load_row rfl 32 (.tmp 4) rfl G y4.eval 32 _ (0, 0) _ (fun W h => h.1) Tryd.underlying32 rfl (hz8 h hh)) hHeld ?_
  show wpAnyH _ _ _ _ _ _ _ (a.put (some 11) (.agg (wvs h).toArray)) _
  have f1_2 := y2.ne (n := 11) (by decide) (.agg (wvs h).toArray)
  have f1_3 := y3.ne (n := 11) (by decide) (.agg (wvs h).toArray)
  have f1_4 := y4.ne (n := 11) (by decide) (.agg (wvs h).toArray)
  have f1_5 := y5.ne (n := 11) (by decide) (.agg (wvs h).toArray)
  have f1_8 := y8.ne (n := 11) (by decide) (.agg (wvs h).toArray)
  have f1_11 := At.put (a := a) (n := 11) (by rw [S0.1, hs36]; decide) (.agg (wvs h).toArray)
  have S1 := S0.put (n := 11) (by decide) (by decide) (.agg (wvs h).toArray)
  generalize a.put (some 11) (.agg (wvs h).toArray) = a1 at S1 f1_2 f1_3 f1_4 f1_5 f1_8 f1_11 ⊢
  refine wpAnyH_take (i := 1) (oi := ⟨some 12, _, _, _, _, _⟩) (v := (.int .u64 (count : Int))) rfl (by kernel_rfl) (by kernel_rfl) (by kernel_rfl) (fun _ _ _ h => h) (.inl ⟨rfl, fun W _ => ex_move rfl f1_2.eval W⟩) hHeld ?_
  show wpAnyH _ _ _ _ _ _ _ (a1.put (some 12) (.int .u64 (count : Int))) _
  have f2_2 := f1_2.ne (n := 12) (by decide) (.int .u64 (count : Int))
  have f2_3 := f1_3.ne (n := 12) (by decide) (.int .u64 (count : Int))
  have f2_4 := f1_4.ne (n := 12) (by decide) (.int .u64 (count : Int))
  have f2_5 := f1_5.ne (n := 12) (by decide) (.int .u64 (count : Int))
  have f2_8 := f1_8.ne (n := 12) (by decide) (.int .u64 (count : Int))
  have f2_11 := f1_11.ne (n := 12) (by decide) (.int .u64 (count : Int))
  have f2_12 := At.put (a := a1) (n := 12) (by rw [S1.1, hs36]; decide) (.int .u64 (count : Int))
  have S2 := S1.put (n := 12) (by decide) (by decide) (.int .u64 (count : Int))
  generalize a1.put (some 12) (.int .u64 (count : Int)) = a2 at S2 f2_2 f2_3 f2_4 f2_5 f2_8 f2_11 f2_12 ⊢
  refine wpAnyH_take (i := 2) (oi := ⟨some 13, _, _, _, _, _⟩) (v := (.bool last)) rfl (by kernel_rfl) (by kernel_rfl) (by kernel_rfl) (fun _ _ _ h => h) (.inl ⟨rfl, fun W _ => ex_move rfl f2_3.eval W⟩) hHeld ?_
  show wpAnyH _ _ _ _ _ _ _ (a2.put (some 13) (.bool last)) _
  have f3_2 := f2_2.ne (n := 13) (by decide) (.bool last)
  have f3_3 := f2_3.ne (n := 13) (by decide) (.bool last)
  have f3_4 := f2_4.ne (n := 13) (by decide) (.bool last)
  have f3_5 := f2_5.ne (n := 13) (by decide) (.bool last)
  have f3_8 := f2_8.ne (n := 13) (by decide) (.bool last)
  have f3_11 := f2_11.ne (n := 13) (by decide) (.bool last)
  have f3_12 := f2_12.ne (n := 13) (by decide) (.bool last)
  have f3_13 := At.put (a := a2) (n := 13) (by rw [S2.1, hs36]; decide) (.bool last)
  have S3 := S2.put (n := 13) (by decide) (by decide) (.bool last)
  generalize a2.put (some 13) (.bool last) = a3 at S3 f3_2 f3_3 f3_4 f3_5 f3_8 f3_11 f3_12 f3_13 ⊢
  refine wpAnyH_take (i := 4) (oi := ⟨some 15, _, _, _, _, _⟩) (v := (.agg (bys b).toArray)) rfl (by kernel_rfl) (by kernel_rfl) (by kernel_rfl) (fun _ _ _ h => h) (yieldsIf_load_row rfl 44 (.tmp 5) rfl (G + 1) f3_5.eval 44 _ (0, 0) _ (fun W h => h.2) Tryd.underlying44 rfl hz64) hHeld ?_
  show wpAnyH _ _ _ _ _ _ _ (a3.put (some 15) (.agg (bys b).toArray)) _
  have f4_2 := f3_2.ne (n := 15) (by decide) (.agg (bys b).toArray)
  have f4_3 := f3_3.ne (n := 15) (by decide) (.agg (bys b).toArray)
  have f4_4 := f3_4.ne (n := 15) (by decide) (.agg (bys b).toArray)
  have f4_5 := f3_5.ne (n := 15) (by decide) (.agg (bys b).toArray)
  have f4_8 := f3_8.ne (n := 15) (by decide) (.agg (bys b).toArray)
  have f4_11 := f3_11.ne (n := 15) (by decide) (.agg (bys b).toArray)
  have f4_12 := f3_12.ne (n := 15) (by decide) (.agg (bys b).toArray)
  have f4_13 := f3_13.ne (n := 15) (by decide) (.agg (bys b).toArray)
  have f4_15 := At.put (a := a3) (n := 15) (by rw [S3.1, hs36]; decide) (.agg (bys b).toArray)
  have S4 := S3.put (n := 15) (by decide) (by decide) (.agg (bys b).toArray)
  generalize a3.put (some 15) (.agg (bys b).toArray) = a4 at S4 f4_2 f4_3 f4_4 f4_5 f4_8 f4_11 f4_12 f4_13 f4_15 ⊢
  clear hHeld
  refine wpAnyH_ready (rs := [3, 7]) (by kernel_rfl) (by simp) ?_
  refine all_enter (v := (.agg (wvs (startL h count last)).toArray)) (R := fun w' => Below w0.drew.heap.size w0.drew w') rfl rfl (ex_vec rfl f4_11 f4_12 f4_13 _) (ovector_any h count last w0.drew hh hcount hL1) (fun w2 hbw => ?_) ?_
  · skip
    have hA2 := hA1.below hbw
    have hK2 := Aby.below hK1 hbw
    have hR2 := hR1.below hbw
    have hB2 := chain hB1 hbw
    have hL2 := hL1.below hbw
    refine ⟨⟨hA2, hK2⟩, ?_⟩
    show wpAnyH _ _ _ _ _ _ _ (a4.put (some 14) (.agg (wvs (startL h count last)).toArray)) _
    have f5_2 := f4_2.ne (n := 14) (by decide) (.agg (wvs (startL h count last)).toArray)
    have f5_3 := f4_3.ne (n := 14) (by decide) (.agg (wvs (startL h count last)).toArray)
    have f5_4 := f4_4.ne (n := 14) (by decide) (.agg (wvs (startL h count last)).toArray)
    have f5_5 := f4_5.ne (n := 14) (by decide) (.agg (wvs (startL h count last)).toArray)
    have f5_8 := f4_8.ne (n := 14) (by decide) (.agg (wvs (startL h count last)).toArray)
    have f5_11 := f4_11.ne (n := 14) (by decide) (.agg (wvs (startL h count last)).toArray)
    have f5_12 := f4_12.ne (n := 14) (by decide) (.agg (wvs (startL h count last)).toArray)
    have f5_13 := f4_13.ne (n := 14) (by decide) (.agg (wvs (startL h count last)).toArray)
    have f5_15 := f4_15.ne (n := 14) (by decide) (.agg (wvs (startL h count last)).toArray)
    have f5_14 := At.put (a := a4) (n := 14) (by rw [S4.1, hs36]; decide) (.agg (wvs (startL h count last)).toArray)
    have S5 := S4.put (n := 14) (by decide) (by decide) (.agg (wvs (startL h count last)).toArray)
    generalize a4.put (some 14) (.agg (wvs (startL h count last)).toArray) = a5 at S5 f5_2 f5_3 f5_4 f5_5 f5_8 f5_11 f5_12 f5_13 f5_15 f5_14 ⊢
    refine wpAnyH_ready (rs := [5, 7]) (by kernel_rfl) (by simp) ?_
    refine all_enter (v := (.agg (wvs (wordsL b)).toArray)) (R := fun w' => Below w2.heap.size w2 w') rfl rfl (ex_words rfl f5_15 _) (owords_any b w2 hb) (fun w3 hbw => ?_) ?_
    · skip
      have hA3 := hA2.below hbw
      have hK3 := Aby.below hK2 hbw
      have hR3 := hR2.below hbw
      have hB3 := chain hB2 hbw
      have hL3 := hL2.below hbw
      refine ⟨⟨hA3, hK3⟩, ?_⟩
      show wpAnyH _ _ _ _ _ _ _ (a5.put (some 16) (.agg (wvs (wordsL b)).toArray)) _
      have f6_2 := f5_2.ne (n := 16) (by decide) (.agg (wvs (wordsL b)).toArray)
      have f6_3 := f5_3.ne (n := 16) (by decide) (.agg (wvs (wordsL b)).toArray)
      have f6_4 := f5_4.ne (n := 16) (by decide) (.agg (wvs (wordsL b)).toArray)
      have f6_5 := f5_5.ne (n := 16) (by decide) (.agg (wvs (wordsL b)).toArray)
      have f6_8 := f5_8.ne (n := 16) (by decide) (.agg (wvs (wordsL b)).toArray)
      have f6_11 := f5_11.ne (n := 16) (by decide) (.agg (wvs (wordsL b)).toArray)
      have f6_12 := f5_12.ne (n := 16) (by decide) (.agg (wvs (wordsL b)).toArray)
      have f6_13 := f5_13.ne (n := 16) (by decide) (.agg (wvs (wordsL b)).toArray)
      have f6_15 := f5_15.ne (n := 16) (by decide) (.agg (wvs (wordsL b)).toArray)
      have f6_14 := f5_14.ne (n := 16) (by decide) (.agg (wvs (wordsL b)).toArray)
      have f6_16 := At.put (a := a5) (n := 16) (by rw [S5.1, hs36]; decide) (.agg (wvs (wordsL b)).toArray)
      have S6 := S5.put (n := 16) (by decide) (by decide) (.agg (wvs (wordsL b)).toArray)
      generalize a5.put (some 16) (.agg (wvs (wordsL b)).toArray) = a6 at S6 f6_2 f6_3 f6_4 f6_5 f6_8 f6_11 f6_12 f6_13 f6_15 f6_14 f6_16 ⊢
      refine wpAnyH_ready (rs := [6, 7]) (by kernel_rfl) (by simp) ?_
      refine all_enter (v := (.agg (wvs (vecV h b count last)).toArray)) (R := fun w' => Below w3.heap.size w3 w') rfl rfl (ex_rounds rfl f6_14 f6_16 _) (orounds_any (startL h count last) (wordsL b) w3 (startL_len _ _ _) (by simp [wordsL]) hL3) (fun w4 hbw => ?_) ?_
      · skip
        have hA4 := hA3.below hbw
        have hK4 := Aby.below hK3 hbw
        have hR4 := hR3.below hbw
        have hB4 := chain hB3 hbw
        have hL4 := hL3.below hbw
        refine ⟨⟨hA4, hK4⟩, ?_⟩
        show wpAnyH _ _ _ _ _ _ _ (a6.put (some 17) (.agg (wvs (vecV h b count last)).toArray)) _
        have f7_2 := f6_2.ne (n := 17) (by decide) (.agg (wvs (vecV h b count last)).toArray)
        have f7_3 := f6_3.ne (n := 17) (by decide) (.agg (wvs (vecV h b count last)).toArray)
        have f7_4 := f6_4.ne (n := 17) (by decide) (.agg (wvs (vecV h b count last)).toArray)
        have f7_5 := f6_5.ne (n := 17) (by decide) (.agg (wvs (vecV h b count last)).toArray)
        have f7_8 := f6_8.ne (n := 17) (by decide) (.agg (wvs (vecV h b count last)).toArray)
        have f7_11 := f6_11.ne (n := 17) (by decide) (.agg (wvs (vecV h b count last)).toArray)
        have f7_12 := f6_12.ne (n := 17) (by decide) (.agg (wvs (vecV h b count last)).toArray)
        have f7_13 := f6_13.ne (n := 17) (by decide) (.agg (wvs (vecV h b count last)).toArray)
        have f7_15 := f6_15.ne (n := 17) (by decide) (.agg (wvs (vecV h b count last)).toArray)
        have f7_14 := f6_14.ne (n := 17) (by decide) (.agg (wvs (vecV h b count last)).toArray)
        have f7_16 := f6_16.ne (n := 17) (by decide) (.agg (wvs (vecV h b count last)).toArray)
        have f7_17 := At.put (a := a6) (n := 17) (by rw [S6.1, hs36]; decide) (.agg (wvs (vecV h b count last)).toArray)
        have S7 := S6.put (n := 17) (by decide) (by decide) (.agg (wvs (vecV h b count last)).toArray)
        generalize a6.put (some 17) (.agg (wvs (vecV h b count last)).toArray) = a7 at S7 f7_2 f7_3 f7_4 f7_5 f7_8 f7_11 f7_12 f7_13 f7_15 f7_14 f7_16 f7_17 ⊢
        refine wpAnyH_ready (rs := [7]) (by kernel_rfl) (by simp) ?_
        refine all_val rfl rfl (ex_alloc16 rfl w4) ⟨(arr_old hA4 _ : Arr _ _ _ _), Aby.below hK4 ((Below.refl _ _).alloc (Nat.le_refl _) _)⟩ ?_ AllReadyH.nil
        have hZ5 := arr_new w4 zeros16 48
        have hA5 := arr_old hA4 (.cells (wvs zeros16).toArray 48)
        have hK5 := Aby.below hK4 ((Below.refl _ _).alloc (Nat.le_refl _) (.cells (wvs zeros16).toArray 48))
        have hR5 := arr_old hR4 (.cells (wvs zeros16).toArray 48)
        have hB5 := hB4.alloc hB4.size (.cells (wvs zeros16).toArray 48)
        have hL5 := hL4.below ((Below.refl _ _).alloc (Nat.le_refl _) (.cells (wvs zeros16).toArray 48))
        have hg := hR4.lt
        obtain ⟨Gv, hGv⟩ : ∃ x, w4.heap.size = x := ⟨_, rfl⟩
        rw [hGv] at hZ5 hg ⊢
        have hne1 : G ≠ Gv := by omega
        have hne2 : G + 1 + 1 ≠ Gv := by omega
        have hgk : w.heap.size ≤ Gv := by omega
        show wpAnyH _ _ _ _ _ _ _ (a7.put (some 9) (.pointer (some ⟨Gv, 0, none⟩))) _
        have f8_2 := f7_2.ne (n := 9) (by decide) (.pointer (some ⟨Gv, 0, none⟩))
        have f8_3 := f7_3.ne (n := 9) (by decide) (.pointer (some ⟨Gv, 0, none⟩))
        have f8_4 := f7_4.ne (n := 9) (by decide) (.pointer (some ⟨Gv, 0, none⟩))
        have f8_5 := f7_5.ne (n := 9) (by decide) (.pointer (some ⟨Gv, 0, none⟩))
        have f8_8 := f7_8.ne (n := 9) (by decide) (.pointer (some ⟨Gv, 0, none⟩))
        have f8_11 := f7_11.ne (n := 9) (by decide) (.pointer (some ⟨Gv, 0, none⟩))
        have f8_12 := f7_12.ne (n := 9) (by decide) (.pointer (some ⟨Gv, 0, none⟩))
        have f8_13 := f7_13.ne (n := 9) (by decide) (.pointer (some ⟨Gv, 0, none⟩))
        have f8_15 := f7_15.ne (n := 9) (by decide) (.pointer (some ⟨Gv, 0, none⟩))
        have f8_14 := f7_14.ne (n := 9) (by decide) (.pointer (some ⟨Gv, 0, none⟩))
        have f8_16 := f7_16.ne (n := 9) (by decide) (.pointer (some ⟨Gv, 0, none⟩))
        have f8_17 := f7_17.ne (n := 9) (by decide) (.pointer (some ⟨Gv, 0, none⟩))
        have f8_9 := At.put (a := a7) (n := 9) (by rw [S7.1, hs36]; decide) (.pointer (some ⟨Gv, 0, none⟩))
        have S8 := S7.put (n := 9) (by decide) (by decide) (.pointer (some ⟨Gv, 0, none⟩))
        generalize a7.put (some 9) (.pointer (some ⟨Gv, 0, none⟩)) = a8 at S8 f8_2 f8_3 f8_4 f8_5 f8_8 f8_11 f8_12 f8_13 f8_15 f8_14 f8_16 f8_17 f8_9 ⊢
        generalize w4.alloc (.cells (wvs zeros16).toArray 48) = w5 at hZ5 hA5 hK5 hR5 hB5 hL5 ⊢
        refine wpAnyH_ready (rs := [8]) (by kernel_rfl) (by simp) ?_
        refine all_skip (w' := w5.setRow Gv (wvs (vecV h b count last)).toArray) rfl rfl rfl (ex_storerow rfl f8_9.eval f8_17.eval hZ5 (hz16 _ hVl) (by simp [wvs_len, hVl]; rfl) (wvs_one _)) ⟨(arr_row hA5 hne1 : Arr _ _ _ _), (setRow_other w5 Gv (G + 1) _ (by omega)).trans hK5⟩ ?_ AllReadyH.nil
        have hA6 := arr_row (cs := (wvs (vecV h b count last)).toArray) hA5 hne1
        have hR6 := arr_row (cs := (wvs (vecV h b count last)).toArray) hR5 hne2
        have hB6 := below_setRow hB5 hgk (wvs (vecV h b count last)).toArray
        have hZ6 : Arr 48 (w5.setRow Gv (wvs (vecV h b count last)).toArray) Gv (vecV h b count last) := setRow_heap _ Gv _ (wvs (vecV h b count last)).toArray _ _ hZ5
        exact wpAnyH_done (by kernel_rfl) (hfin Gv _ _ (by rw [S8.1, hs36]) (by rw [S8.2.1, hdf]) f8_4 f8_8 f8_9 hA6 hZ6 hR6 hne1 hne2 hB6) _
      refine all_val rfl rfl (ex_alloc16 rfl w3) ⟨(arr_old hA3 _ : Arr _ _ _ _), Aby.below hK3 ((Below.refl _ _).alloc (Nat.le_refl _) _)⟩ ?_ AllReadyH.nil
      have hZ4 := arr_new w3 zeros16 48
      have hA4 := arr_old hA3 (.cells (wvs zeros16).toArray 48)
      have hK4 := Aby.below hK3 ((Below.refl _ _).alloc (Nat.le_refl _) (.cells (wvs zeros16).toArray 48))
      have hR4 := arr_old hR3 (.cells (wvs zeros16).toArray 48)
      have hB4 := hB3.alloc hB3.size (.cells (wvs zeros16).toArray 48)
      have hL4 := hL3.below ((Below.refl _ _).alloc (Nat.le_refl _) (.cells (wvs zeros16).toArray 48))
      have hg := hR3.lt
      obtain ⟨Gv, hGv⟩ : ∃ x, w3.heap.size = x := ⟨_, rfl⟩
      rw [hGv] at hZ4 hg ⊢
      have hne1 : G ≠ Gv := by omega
      have hne2 : G + 1 + 1 ≠ Gv := by omega
      have hgk : w.heap.size ≤ Gv := by omega
      show wpAnyH _ _ _ _ _ _ _ (a6.put (some 9) (.pointer (some ⟨Gv, 0, none⟩))) _
      have f9_2 := f6_2.ne (n := 9) (by decide) (.pointer (some ⟨Gv, 0, none⟩))
      have f9_3 := f6_3.ne (n := 9) (by decide) (.pointer (some ⟨Gv, 0, none⟩))
      have f9_4 := f6_4.ne (n := 9) (by decide) (.pointer (some ⟨Gv, 0, none⟩))
      have f9_5 := f6_5.ne (n := 9) (by decide) (.pointer (some ⟨Gv, 0, none⟩))
      have f9_8 := f6_8.ne (n := 9) (by decide) (.pointer (some ⟨Gv, 0, none⟩))
      have f9_11 := f6_11.ne (n := 9) (by decide) (.pointer (some ⟨Gv, 0, none⟩))
      have f9_12 := f6_12.ne (n := 9) (by decide) (.pointer (some ⟨Gv, 0, none⟩))
      have f9_13 := f6_13.ne (n := 9) (by decide) (.pointer (some ⟨Gv, 0, none⟩))
      have f9_15 := f6_15.ne (n := 9) (by decide) (.pointer (some ⟨Gv, 0, none⟩))
      have f9_14 := f6_14.ne (n := 9) (by decide) (.pointer (some ⟨Gv, 0, none⟩))
      have f9_16 := f6_16.ne (n := 9) (by decide) (.pointer (some ⟨Gv, 0, none⟩))
      have f9_9 := At.put (a := a6) (n := 9) (by rw [S6.1, hs36]; decide) (.pointer (some ⟨Gv, 0, none⟩))
      have S9 := S6.put (n := 9) (by decide) (by decide) (.pointer (some ⟨Gv, 0, none⟩))
      generalize a6.put (some 9) (.pointer (some ⟨Gv, 0, none⟩)) = a9 at S9 f9_2 f9_3 f9_4 f9_5 f9_8 f9_11 f9_12 f9_13 f9_15 f9_14 f9_16 f9_9 ⊢
      generalize w3.alloc (.cells (wvs zeros16).toArray 48) = w4 at hZ4 hA4 hK4 hR4 hB4 hL4 ⊢
      refine wpAnyH_ready (rs := [6]) (by kernel_rfl) (by simp) ?_
      refine all_enter (v := (.agg (wvs (vecV h b count last)).toArray)) (R := fun w' => Below w4.heap.size w4 w') rfl rfl (ex_rounds rfl f9_14 f9_16 _) (orounds_any (startL h count last) (wordsL b) w4 (startL_len _ _ _) (by simp [wordsL]) hL4) (fun w5 hbw => ?_) AllReadyH.nil
      have hA5 := hA4.below hbw
      have hK5 := Aby.below hK4 hbw
      have hR5 := hR4.below hbw
      have hB5 := chain hB4 hbw
      have hL5 := hL4.below hbw
      have hZ5 := hZ4.below hbw
      refine ⟨⟨hA5, hK5⟩, ?_⟩
      show wpAnyH _ _ _ _ _ _ _ (a9.put (some 17) (.agg (wvs (vecV h b count last)).toArray)) _
      have f10_2 := f9_2.ne (n := 17) (by decide) (.agg (wvs (vecV h b count last)).toArray)
      have f10_3 := f9_3.ne (n := 17) (by decide) (.agg (wvs (vecV h b count last)).toArray)
      have f10_4 := f9_4.ne (n := 17) (by decide) (.agg (wvs (vecV h b count last)).toArray)
      have f10_5 := f9_5.ne (n := 17) (by decide) (.agg (wvs (vecV h b count last)).toArray)
      have f10_8 := f9_8.ne (n := 17) (by decide) (.agg (wvs (vecV h b count last)).toArray)
      have f10_11 := f9_11.ne (n := 17) (by decide) (.agg (wvs (vecV h b count last)).toArray)
      have f10_12 := f9_12.ne (n := 17) (by decide) (.agg (wvs (vecV h b count last)).toArray)
      have f10_13 := f9_13.ne (n := 17) (by decide) (.agg (wvs (vecV h b count last)).toArray)
      have f10_15 := f9_15.ne (n := 17) (by decide) (.agg (wvs (vecV h b count last)).toArray)
      have f10_14 := f9_14.ne (n := 17) (by decide) (.agg (wvs (vecV h b count last)).toArray)
      have f10_16 := f9_16.ne (n := 17) (by decide) (.agg (wvs (vecV h b count last)).toArray)
      have f10_9 := f9_9.ne (n := 17) (by decide) (.agg (wvs (vecV h b count last)).toArray)
      have f10_17 := At.put (a := a9) (n := 17) (by rw [S9.1, hs36]; decide) (.agg (wvs (vecV h b count last)).toArray)
      have S10 := S9.put (n := 17) (by decide) (by decide) (.agg (wvs (vecV h b count last)).toArray)
      generalize a9.put (some 17) (.agg (wvs (vecV h b count last)).toArray) = a10 at S10 f10_2 f10_3 f10_4 f10_5 f10_8 f10_11 f10_12 f10_13 f10_15 f10_14 f10_16 f10_9 f10_17 ⊢
      refine wpAnyH_ready (rs := [8]) (by kernel_rfl) (by simp) ?_
      refine all_skip (w' := w5.setRow Gv (wvs (vecV h b count last)).toArray) rfl rfl rfl (ex_storerow rfl f10_9.eval f10_17.eval hZ5 (hz16 _ hVl) (by simp [wvs_len, hVl]; rfl) (wvs_one _)) ⟨(arr_row hA5 hne1 : Arr _ _ _ _), (setRow_other w5 Gv (G + 1) _ (by omega)).trans hK5⟩ ?_ AllReadyH.nil
      have hA6 := arr_row (cs := (wvs (vecV h b count last)).toArray) hA5 hne1
      have hR6 := arr_row (cs := (wvs (vecV h b count last)).toArray) hR5 hne2
      have hB6 := below_setRow hB5 hgk (wvs (vecV h b count last)).toArray
      have hZ6 : Arr 48 (w5.setRow Gv (wvs (vecV h b count last)).toArray) Gv (vecV h b count last) := setRow_heap _ Gv _ (wvs (vecV h b count last)).toArray _ _ hZ5
      exact wpAnyH_done (by kernel_rfl) (hfin Gv _ _ (by rw [S10.1, hs36]) (by rw [S10.2.1, hdf]) f10_4 f10_8 f10_9 hA6 hZ6 hR6 hne1 hne2 hB6) _
    refine all_val rfl rfl (ex_alloc16 rfl w2) ⟨(arr_old hA2 _ : Arr _ _ _ _), Aby.below hK2 ((Below.refl _ _).alloc (Nat.le_refl _) _)⟩ ?_ AllReadyH.nil
    have hZ3 := arr_new w2 zeros16 48
    have hA3 := arr_old hA2 (.cells (wvs zeros16).toArray 48)
    have hK3 := Aby.below hK2 ((Below.refl _ _).alloc (Nat.le_refl _) (.cells (wvs zeros16).toArray 48))
    have hR3 := arr_old hR2 (.cells (wvs zeros16).toArray 48)
    have hB3 := hB2.alloc hB2.size (.cells (wvs zeros16).toArray 48)
    have hL3 := hL2.below ((Below.refl _ _).alloc (Nat.le_refl _) (.cells (wvs zeros16).toArray 48))
    have hg := hR2.lt
    obtain ⟨Gv, hGv⟩ : ∃ x, w2.heap.size = x := ⟨_, rfl⟩
    rw [hGv] at hZ3 hg ⊢
    have hne1 : G ≠ Gv := by omega
    have hne2 : G + 1 + 1 ≠ Gv := by omega
    have hgk : w.heap.size ≤ Gv := by omega
    show wpAnyH _ _ _ _ _ _ _ (a5.put (some 9) (.pointer (some ⟨Gv, 0, none⟩))) _
    have f11_2 := f5_2.ne (n := 9) (by decide) (.pointer (some ⟨Gv, 0, none⟩))
    have f11_3 := f5_3.ne (n := 9) (by decide) (.pointer (some ⟨Gv, 0, none⟩))
    have f11_4 := f5_4.ne (n := 9) (by decide) (.pointer (some ⟨Gv, 0, none⟩))
    have f11_5 := f5_5.ne (n := 9) (by decide) (.pointer (some ⟨Gv, 0, none⟩))
    have f11_8 := f5_8.ne (n := 9) (by decide) (.pointer (some ⟨Gv, 0, none⟩))
    have f11_11 := f5_11.ne (n := 9) (by decide) (.pointer (some ⟨Gv, 0, none⟩))
    have f11_12 := f5_12.ne (n := 9) (by decide) (.pointer (some ⟨Gv, 0, none⟩))
    have f11_13 := f5_13.ne (n := 9) (by decide) (.pointer (some ⟨Gv, 0, none⟩))
    have f11_15 := f5_15.ne (n := 9) (by decide) (.pointer (some ⟨Gv, 0, none⟩))
    have f11_14 := f5_14.ne (n := 9) (by decide) (.pointer (some ⟨Gv, 0, none⟩))
    have f11_9 := At.put (a := a5) (n := 9) (by rw [S5.1, hs36]; decide) (.pointer (some ⟨Gv, 0, none⟩))
    have S11 := S5.put (n := 9) (by decide) (by decide) (.pointer (some ⟨Gv, 0, none⟩))
    generalize a5.put (some 9) (.pointer (some ⟨Gv, 0, none⟩)) = a11 at S11 f11_2 f11_3 f11_4 f11_5 f11_8 f11_11 f11_12 f11_13 f11_15 f11_14 f11_9 ⊢
    generalize w2.alloc (.cells (wvs zeros16).toArray 48) = w3 at hZ3 hA3 hK3 hR3 hB3 hL3 ⊢
    refine wpAnyH_ready (rs := [5]) (by kernel_rfl) (by simp) ?_
    refine all_enter (v := (.agg (wvs (wordsL b)).toArray)) (R := fun w' => Below w3.heap.size w3 w') rfl rfl (ex_words rfl f11_15 _) (owords_any b w3 hb) (fun w4 hbw => ?_) AllReadyH.nil
    have hA4 := hA3.below hbw
    have hK4 := Aby.below hK3 hbw
    have hR4 := hR3.below hbw
    have hB4 := chain hB3 hbw
    have hL4 := hL3.below hbw
    have hZ4 := hZ3.below hbw
    refine ⟨⟨hA4, hK4⟩, ?_⟩
    show wpAnyH _ _ _ _ _ _ _ (a11.put (some 16) (.agg (wvs (wordsL b)).toArray)) _
    have f12_2 := f11_2.ne (n := 16) (by decide) (.agg (wvs (wordsL b)).toArray)
    have f12_3 := f11_3.ne (n := 16) (by decide) (.agg (wvs (wordsL b)).toArray)
    have f12_4 := f11_4.ne (n := 16) (by decide) (.agg (wvs (wordsL b)).toArray)
    have f12_5 := f11_5.ne (n := 16) (by decide) (.agg (wvs (wordsL b)).toArray)
    have f12_8 := f11_8.ne (n := 16) (by decide) (.agg (wvs (wordsL b)).toArray)
    have f12_11 := f11_11.ne (n := 16) (by decide) (.agg (wvs (wordsL b)).toArray)
    have f12_12 := f11_12.ne (n := 16) (by decide) (.agg (wvs (wordsL b)).toArray)
    have f12_13 := f11_13.ne (n := 16) (by decide) (.agg (wvs (wordsL b)).toArray)
    have f12_15 := f11_15.ne (n := 16) (by decide) (.agg (wvs (wordsL b)).toArray)
    have f12_14 := f11_14.ne (n := 16) (by decide) (.agg (wvs (wordsL b)).toArray)
    have f12_9 := f11_9.ne (n := 16) (by decide) (.agg (wvs (wordsL b)).toArray)
    have f12_16 := At.put (a := a11) (n := 16) (by rw [S11.1, hs36]; decide) (.agg (wvs (wordsL b)).toArray)
    have S12 := S11.put (n := 16) (by decide) (by decide) (.agg (wvs (wordsL b)).toArray)
    generalize a11.put (some 16) (.agg (wvs (wordsL b)).toArray) = a12 at S12 f12_2 f12_3 f12_4 f12_5 f12_8 f12_11 f12_12 f12_13 f12_15 f12_14 f12_9 f12_16 ⊢
    refine wpAnyH_ready (rs := [6]) (by kernel_rfl) (by simp) ?_
    refine all_enter (v := (.agg (wvs (vecV h b count last)).toArray)) (R := fun w' => Below w4.heap.size w4 w') rfl rfl (ex_rounds rfl f12_14 f12_16 _) (orounds_any (startL h count last) (wordsL b) w4 (startL_len _ _ _) (by simp [wordsL]) hL4) (fun w5 hbw => ?_) AllReadyH.nil
    have hA5 := hA4.below hbw
    have hK5 := Aby.below hK4 hbw
    have hR5 := hR4.below hbw
    have hB5 := chain hB4 hbw
    have hL5 := hL4.below hbw
    have hZ5 := hZ4.below hbw
    refine ⟨⟨hA5, hK5⟩, ?_⟩
    show wpAnyH _ _ _ _ _ _ _ (a12.put (some 17) (.agg (wvs (vecV h b count last)).toArray)) _
    have f13_2 := f12_2.ne (n := 17) (by decide) (.agg (wvs (vecV h b count last)).toArray)
    have f13_3 := f12_3.ne (n := 17) (by decide) (.agg (wvs (vecV h b count last)).toArray)
    have f13_4 := f12_4.ne (n := 17) (by decide) (.agg (wvs (vecV h b count last)).toArray)
    have f13_5 := f12_5.ne (n := 17) (by decide) (.agg (wvs (vecV h b count last)).toArray)
    have f13_8 := f12_8.ne (n := 17) (by decide) (.agg (wvs (vecV h b count last)).toArray)
    have f13_11 := f12_11.ne (n := 17) (by decide) (.agg (wvs (vecV h b count last)).toArray)
    have f13_12 := f12_12.ne (n := 17) (by decide) (.agg (wvs (vecV h b count last)).toArray)
    have f13_13 := f12_13.ne (n := 17) (by decide) (.agg (wvs (vecV h b count last)).toArray)
    have f13_15 := f12_15.ne (n := 17) (by decide) (.agg (wvs (vecV h b count last)).toArray)
    have f13_14 := f12_14.ne (n := 17) (by decide) (.agg (wvs (vecV h b count last)).toArray)
    have f13_9 := f12_9.ne (n := 17) (by decide) (.agg (wvs (vecV h b count last)).toArray)
    have f13_16 := f12_16.ne (n := 17) (by decide) (.agg (wvs (vecV h b count last)).toArray)
    have f13_17 := At.put (a := a12) (n := 17) (by rw [S12.1, hs36]; decide) (.agg (wvs (vecV h b count last)).toArray)
    have S13 := S12.put (n := 17) (by decide) (by decide) (.agg (wvs (vecV h b count last)).toArray)
    generalize a12.put (some 17) (.agg (wvs (vecV h b count last)).toArray) = a13 at S13 f13_2 f13_3 f13_4 f13_5 f13_8 f13_11 f13_12 f13_13 f13_15 f13_14 f13_9 f13_16 f13_17 ⊢
    refine wpAnyH_ready (rs := [8]) (by kernel_rfl) (by simp) ?_
    refine all_skip (w' := w5.setRow Gv (wvs (vecV h b count last)).toArray) rfl rfl rfl (ex_storerow rfl f13_9.eval f13_17.eval hZ5 (hz16 _ hVl) (by simp [wvs_len, hVl]; rfl) (wvs_one _)) ⟨(arr_row hA5 hne1 : Arr _ _ _ _), (setRow_other w5 Gv (G + 1) _ (by omega)).trans hK5⟩ ?_ AllReadyH.nil
    have hA6 := arr_row (cs := (wvs (vecV h b count last)).toArray) hA5 hne1
    have hR6 := arr_row (cs := (wvs (vecV h b count last)).toArray) hR5 hne2
    have hB6 := below_setRow hB5 hgk (wvs (vecV h b count last)).toArray
    have hZ6 : Arr 48 (w5.setRow Gv (wvs (vecV h b count last)).toArray) Gv (vecV h b count last) := setRow_heap _ Gv _ (wvs (vecV h b count last)).toArray _ _ hZ5
    exact wpAnyH_done (by kernel_rfl) (hfin Gv _ _ (by rw [S13.1, hs36]) (by rw [S13.2.1, hdf]) f13_4 f13_8 f13_9 hA6 hZ6 hR6 hne1 hne2 hB6) _
  refine all_val rfl rfl (ex_alloc16 rfl w0.drew) ⟨(arr_old hA1 _ : Arr _ _ _ _), Aby.below hK1 ((Below.refl _ _).alloc (Nat.le_refl _) _)⟩ ?_ AllReadyH.nil
  have hZ2 := arr_new w0.drew zeros16 48
  have hA2 := arr_old hA1 (.cells (wvs zeros16).toArray 48)
  have hK2 := Aby.below hK1 ((Below.refl _ _).alloc (Nat.le_refl _) (.cells (wvs zeros16).toArray 48))
  have hR2 := arr_old hR1 (.cells (wvs zeros16).toArray 48)
  have hB2 := hB1.alloc hB1.size (.cells (wvs zeros16).toArray 48)
  have hL2 := hL1.below ((Below.refl _ _).alloc (Nat.le_refl _) (.cells (wvs zeros16).toArray 48))
  have hg := hR1.lt
  obtain ⟨Gv, hGv⟩ : ∃ x, w0.drew.heap.size = x := ⟨_, rfl⟩
  rw [hGv] at hZ2 hg ⊢
  have hne1 : G ≠ Gv := by omega
  have hne2 : G + 1 + 1 ≠ Gv := by omega
  have hgk : w.heap.size ≤ Gv := by omega
  show wpAnyH _ _ _ _ _ _ _ (a4.put (some 9) (.pointer (some ⟨Gv, 0, none⟩))) _
  have f14_2 := f4_2.ne (n := 9) (by decide) (.pointer (some ⟨Gv, 0, none⟩))
  have f14_3 := f4_3.ne (n := 9) (by decide) (.pointer (some ⟨Gv, 0, none⟩))
  have f14_4 := f4_4.ne (n := 9) (by decide) (.pointer (some ⟨Gv, 0, none⟩))
  have f14_5 := f4_5.ne (n := 9) (by decide) (.pointer (some ⟨Gv, 0, none⟩))
  have f14_8 := f4_8.ne (n := 9) (by decide) (.pointer (some ⟨Gv, 0, none⟩))
  have f14_11 := f4_11.ne (n := 9) (by decide) (.pointer (some ⟨Gv, 0, none⟩))
  have f14_12 := f4_12.ne (n := 9) (by decide) (.pointer (some ⟨Gv, 0, none⟩))
  have f14_13 := f4_13.ne (n := 9) (by decide) (.pointer (some ⟨Gv, 0, none⟩))
  have f14_15 := f4_15.ne (n := 9) (by decide) (.pointer (some ⟨Gv, 0, none⟩))
  have f14_9 := At.put (a := a4) (n := 9) (by rw [S4.1, hs36]; decide) (.pointer (some ⟨Gv, 0, none⟩))
  have S14 := S4.put (n := 9) (by decide) (by decide) (.pointer (some ⟨Gv, 0, none⟩))
  generalize a4.put (some 9) (.pointer (some ⟨Gv, 0, none⟩)) = a14 at S14 f14_2 f14_3 f14_4 f14_5 f14_8 f14_11 f14_12 f14_13 f14_15 f14_9 ⊢
  generalize w0.drew.alloc (.cells (wvs zeros16).toArray 48) = w2 at hZ2 hA2 hK2 hR2 hB2 hL2 ⊢
  refine wpAnyH_ready (rs := [3]) (by kernel_rfl) (by simp) ?_
  refine all_enter (v := (.agg (wvs (startL h count last)).toArray)) (R := fun w' => Below w2.heap.size w2 w') rfl rfl (ex_vec rfl f14_11 f14_12 f14_13 _) (ovector_any h count last w2 hh hcount hL2) (fun w3 hbw => ?_) AllReadyH.nil
  have hA3 := hA2.below hbw
  have hK3 := Aby.below hK2 hbw
  have hR3 := hR2.below hbw
  have hB3 := chain hB2 hbw
  have hL3 := hL2.below hbw
  have hZ3 := hZ2.below hbw
  refine ⟨⟨hA3, hK3⟩, ?_⟩
  show wpAnyH _ _ _ _ _ _ _ (a14.put (some 14) (.agg (wvs (startL h count last)).toArray)) _
  have f15_2 := f14_2.ne (n := 14) (by decide) (.agg (wvs (startL h count last)).toArray)
  have f15_3 := f14_3.ne (n := 14) (by decide) (.agg (wvs (startL h count last)).toArray)
  have f15_4 := f14_4.ne (n := 14) (by decide) (.agg (wvs (startL h count last)).toArray)
  have f15_5 := f14_5.ne (n := 14) (by decide) (.agg (wvs (startL h count last)).toArray)
  have f15_8 := f14_8.ne (n := 14) (by decide) (.agg (wvs (startL h count last)).toArray)
  have f15_11 := f14_11.ne (n := 14) (by decide) (.agg (wvs (startL h count last)).toArray)
  have f15_12 := f14_12.ne (n := 14) (by decide) (.agg (wvs (startL h count last)).toArray)
  have f15_13 := f14_13.ne (n := 14) (by decide) (.agg (wvs (startL h count last)).toArray)
  have f15_15 := f14_15.ne (n := 14) (by decide) (.agg (wvs (startL h count last)).toArray)
  have f15_9 := f14_9.ne (n := 14) (by decide) (.agg (wvs (startL h count last)).toArray)
  have f15_14 := At.put (a := a14) (n := 14) (by rw [S14.1, hs36]; decide) (.agg (wvs (startL h count last)).toArray)
  have S15 := S14.put (n := 14) (by decide) (by decide) (.agg (wvs (startL h count last)).toArray)
  generalize a14.put (some 14) (.agg (wvs (startL h count last)).toArray) = a15 at S15 f15_2 f15_3 f15_4 f15_5 f15_8 f15_11 f15_12 f15_13 f15_15 f15_9 f15_14 ⊢
  refine wpAnyH_ready (rs := [5]) (by kernel_rfl) (by simp) ?_
  refine all_enter (v := (.agg (wvs (wordsL b)).toArray)) (R := fun w' => Below w3.heap.size w3 w') rfl rfl (ex_words rfl f15_15 _) (owords_any b w3 hb) (fun w4 hbw => ?_) AllReadyH.nil
  have hA4 := hA3.below hbw
  have hK4 := Aby.below hK3 hbw
  have hR4 := hR3.below hbw
  have hB4 := chain hB3 hbw
  have hL4 := hL3.below hbw
  have hZ4 := hZ3.below hbw
  refine ⟨⟨hA4, hK4⟩, ?_⟩
  show wpAnyH _ _ _ _ _ _ _ (a15.put (some 16) (.agg (wvs (wordsL b)).toArray)) _
  have f16_2 := f15_2.ne (n := 16) (by decide) (.agg (wvs (wordsL b)).toArray)
  have f16_3 := f15_3.ne (n := 16) (by decide) (.agg (wvs (wordsL b)).toArray)
  have f16_4 := f15_4.ne (n := 16) (by decide) (.agg (wvs (wordsL b)).toArray)
  have f16_5 := f15_5.ne (n := 16) (by decide) (.agg (wvs (wordsL b)).toArray)
  have f16_8 := f15_8.ne (n := 16) (by decide) (.agg (wvs (wordsL b)).toArray)
  have f16_11 := f15_11.ne (n := 16) (by decide) (.agg (wvs (wordsL b)).toArray)
  have f16_12 := f15_12.ne (n := 16) (by decide) (.agg (wvs (wordsL b)).toArray)
  have f16_13 := f15_13.ne (n := 16) (by decide) (.agg (wvs (wordsL b)).toArray)
  have f16_15 := f15_15.ne (n := 16) (by decide) (.agg (wvs (wordsL b)).toArray)
  have f16_9 := f15_9.ne (n := 16) (by decide) (.agg (wvs (wordsL b)).toArray)
  have f16_14 := f15_14.ne (n := 16) (by decide) (.agg (wvs (wordsL b)).toArray)
  have f16_16 := At.put (a := a15) (n := 16) (by rw [S15.1, hs36]; decide) (.agg (wvs (wordsL b)).toArray)
  have S16 := S15.put (n := 16) (by decide) (by decide) (.agg (wvs (wordsL b)).toArray)
  generalize a15.put (some 16) (.agg (wvs (wordsL b)).toArray) = a16 at S16 f16_2 f16_3 f16_4 f16_5 f16_8 f16_11 f16_12 f16_13 f16_15 f16_9 f16_14 f16_16 ⊢
  refine wpAnyH_ready (rs := [6]) (by kernel_rfl) (by simp) ?_
  refine all_enter (v := (.agg (wvs (vecV h b count last)).toArray)) (R := fun w' => Below w4.heap.size w4 w') rfl rfl (ex_rounds rfl f16_14 f16_16 _) (orounds_any (startL h count last) (wordsL b) w4 (startL_len _ _ _) (by simp [wordsL]) hL4) (fun w5 hbw => ?_) AllReadyH.nil
  have hA5 := hA4.below hbw
  have hK5 := Aby.below hK4 hbw
  have hR5 := hR4.below hbw
  have hB5 := chain hB4 hbw
  have hL5 := hL4.below hbw
  have hZ5 := hZ4.below hbw
  refine ⟨⟨hA5, hK5⟩, ?_⟩
  show wpAnyH _ _ _ _ _ _ _ (a16.put (some 17) (.agg (wvs (vecV h b count last)).toArray)) _
  have f17_2 := f16_2.ne (n := 17) (by decide) (.agg (wvs (vecV h b count last)).toArray)
  have f17_3 := f16_3.ne (n := 17) (by decide) (.agg (wvs (vecV h b count last)).toArray)
  have f17_4 := f16_4.ne (n := 17) (by decide) (.agg (wvs (vecV h b count last)).toArray)
  have f17_5 := f16_5.ne (n := 17) (by decide) (.agg (wvs (vecV h b count last)).toArray)
  have f17_8 := f16_8.ne (n := 17) (by decide) (.agg (wvs (vecV h b count last)).toArray)
  have f17_11 := f16_11.ne (n := 17) (by decide) (.agg (wvs (vecV h b count last)).toArray)
  have f17_12 := f16_12.ne (n := 17) (by decide) (.agg (wvs (vecV h b count last)).toArray)
  have f17_13 := f16_13.ne (n := 17) (by decide) (.agg (wvs (vecV h b count last)).toArray)
  have f17_15 := f16_15.ne (n := 17) (by decide) (.agg (wvs (vecV h b count last)).toArray)
  have f17_9 := f16_9.ne (n := 17) (by decide) (.agg (wvs (vecV h b count last)).toArray)
  have f17_14 := f16_14.ne (n := 17) (by decide) (.agg (wvs (vecV h b count last)).toArray)
  have f17_16 := f16_16.ne (n := 17) (by decide) (.agg (wvs (vecV h b count last)).toArray)
  have f17_17 := At.put (a := a16) (n := 17) (by rw [S16.1, hs36]; decide) (.agg (wvs (vecV h b count last)).toArray)
  have S17 := S16.put (n := 17) (by decide) (by decide) (.agg (wvs (vecV h b count last)).toArray)
  generalize a16.put (some 17) (.agg (wvs (vecV h b count last)).toArray) = a17 at S17 f17_2 f17_3 f17_4 f17_5 f17_8 f17_11 f17_12 f17_13 f17_15 f17_9 f17_14 f17_16 f17_17 ⊢
  refine wpAnyH_ready (rs := [8]) (by kernel_rfl) (by simp) ?_
  refine all_skip (w' := w5.setRow Gv (wvs (vecV h b count last)).toArray) rfl rfl rfl (ex_storerow rfl f17_9.eval f17_17.eval hZ5 (hz16 _ hVl) (by simp [wvs_len, hVl]; rfl) (wvs_one _)) ⟨(arr_row hA5 hne1 : Arr _ _ _ _), (setRow_other w5 Gv (G + 1) _ (by omega)).trans hK5⟩ ?_ AllReadyH.nil
  have hA6 := arr_row (cs := (wvs (vecV h b count last)).toArray) hA5 hne1
  have hR6 := arr_row (cs := (wvs (vecV h b count last)).toArray) hR5 hne2
  have hB6 := below_setRow hB5 hgk (wvs (vecV h b count last)).toArray
  have hZ6 : Arr 48 (w5.setRow Gv (wvs (vecV h b count last)).toArray) Gv (vecV h b count last) := setRow_heap _ Gv _ (wvs (vecV h b count last)).toArray _ _ hZ5
  exact wpAnyH_done (by kernel_rfl) (hfin Gv _ _ (by rw [S17.1, hs36]) (by rw [S17.2.1, hdf]) f17_4 f17_8 f17_9 hA6 hZ6 hR6 hne1 hne2 hB6) _
end Go.Proofs.YtkppepdniehoiaaDoor.B4
