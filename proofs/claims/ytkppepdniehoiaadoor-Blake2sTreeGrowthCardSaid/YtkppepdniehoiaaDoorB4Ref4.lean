/- The contract of the reference's Compress. -/
import Derived.Test.YtkppepdniehoiaaDoorB4Abs2
namespace Go.Proofs.YtkppepdniehoiaaDoor.B4
open Go.RowKit Mem
set_option linter.unusedVariables false
set_option linter.unusedSimpArgs false

theorem startL_false (h : List R) (count : Nat) : startL h count false = ((start0 h).set 12 (g (start0 h) 12 ^^^ BitVec.ofNat 32 count)).set 13 (g (start0 h) 13 ^^^ BitVec.ofNat 32 (count / 4294967296)) := by
  show ((start0 h).set 12 (g (start0 h) 12 ^^^ _)).set 13 (g ((start0 h).set 12 _) 13 ^^^ _) = _
  rw [g_set _ _ _ _ (by simp [start0, ivL]), if_neg (by decide)]
theorem startL_true (h : List R) (count : Nat) : startL h count true = (startL h count false).set 14 (~~~ (g (startL h count false) 14)) := rfl
theorem start0_len (h : List R) : (start0 h).length = 16 := by simp [start0, ivL]
theorem permS_len (r : Nat) (h : r < 10) : (permS r).length = 16 := by
  have : ∀ r, r < 10 → (permS r).length = 16 := by decide
  exact this r h
theorem permS_lo (r k : Nat) (hr : r < 10) (hk : k < 16) : 48 ≤ ((permS r).getD k 0).toNat := by
  have : ∀ r, r < 10 → ∀ k, k < 16 → 48 ≤ ((permS r).getD k 0).toNat := by decide +kernel
  exact this r hr k hk
theorem colL_get (k : Nat) (hk : k < 8) : (colL k).length = 4 ∧ (colL k).getD 0 0 < 16 ∧ (colL k).getD 1 0 < 16 ∧ (colL k).getD 2 0 < 16 ∧ (colL k).getD 3 0 < 16 := by
  have : ∀ k, k < 8 → (colL k).length = 4 ∧ (colL k).getD 0 0 < 16 ∧ (colL k).getD 1 0 < 16 ∧ (colL k).getD 2 0 < 16 ∧ (colL k).getD 3 0 < 16 := by decide
  exact this k hk
theorem cell_nats {w : World} {G : Nat} {t : TypeId} {l : List Nat} (h : w.heap[G]? = some (.cells (nats l).toArray t (0, 0))) (i : Nat) (hi : i < l.length) : w.cell? ⟨G, i, none⟩ = some (.int .i64 ((l.getD i 0 : Nat) : Int)) := by
  rw [Lib.cell_of_heap h]
  simp [nats, List.getD, hi]
theorem nats_one (l : List Nat) : (nats l).toArray.all (·.oneCell') = true := by
  rw [Array.all_eq_true_iff_forall_mem]
  intro v hv
  simp [nats] at hv
  obtain ⟨x, _, rfl⟩ := hv
  rfl
theorem str_get (l : List UInt8) (k : Nat) (hk : k < (⟨l.toArray⟩ : ByteArray).size) : (⟨l.toArray⟩ : ByteArray)[k] = l.getD k 0 := by
  have hk' : k < l.length := hk
  show l.toArray[k]'_ = _
  simp [List.getD, hk']
theorem byte_get (s : ByteArray) (k : Nat) (hk : k < s.size) : s[k] = s.data.toList.getD k 0 := by
  have hk' : k < s.data.toList.length := hk
  rw [List.getD, List.getElem?_eq_getElem hk']
  rfl
theorem ir8 (l : List R) (hl : l.length = 8) : (Tryd.prog.info? 32).map (·.size) = some (wvs l).toArray.size := by rw [info_8w]; simp [wvs_len, hl]
theorem ir16 (l : List R) (hl : l.length = 16) : (Tryd.prog.info? 48).map (·.size) = some (wvs l).toArray.size := by rw [info_16w]; simp [wvs_len, hl]

def RI1 (w : World) (h : List R) (b : List UInt8) (block : ByteArray) (count : Nat) (last : Bool) (G : Nat) (a : Act) (wr : World) : Prop :=
  ∃ k : Nat, k ≤ 64 ∧ a.tmps.size = 135 ∧ a.defers = [] ∧ At a 1 (.string block) ∧ At a 2 (.int .u64 (count : Int)) ∧ At a 3 (.bool last) ∧ At a 4 (.pointer (some ⟨G, 0, none⟩)) ∧ At a 8 (.pointer (some ⟨G + 1, 0, none⟩)) ∧ At a 10 (.pointer (some ⟨G + 1 + 1, 0, none⟩)) ∧ At a 11 (.int .i64 (k : Int)) ∧ Arr 32 wr (G) (h) ∧ Arr 32 wr (G + 1) (zeros8) ∧ Arr 48 wr (G + 1 + 1) (mloop b k) ∧ Below w.heap.size w wr
def MUR (s n : Nat) (a : Act) (_ : World) : Nat := n - (intOf (a.eval (.tmp s))).toNat
def RJ (w : World) (h : List R) (m : List R) (count : Nat) (last : Bool) (G Ib V : Nat) (l v : List R) (a : Act) (wr : World) : Prop :=
  a.tmps.size = 135 ∧ a.defers = [] ∧ At a 2 (.int .u64 (count : Int)) ∧ At a 3 (.bool last) ∧ At a 4 (.pointer (some ⟨G, 0, none⟩)) ∧ At a 8 (.pointer (some ⟨G + 1, 0, none⟩)) ∧ At a 10 (.pointer (some ⟨G + 1 + 1, 0, none⟩)) ∧ At a 12 (.pointer (some ⟨Ib, 0, none⟩)) ∧ At a 13 (.pointer (some ⟨V, 0, none⟩)) ∧ Arr 32 wr (G) (l) ∧ Arr 32 wr (G + 1) (zeros8) ∧ Arr 48 wr (G + 1 + 1) (m) ∧ Arr 32 wr (Ib) (ivL) ∧ Arr 48 wr (V) (v) ∧ Below w.heap.size w wr
def RI2 (w : World) (h : List R) (m : List R) (count : Nat) (last : Bool) (G Ib V : Nat) (a : Act) (wr : World) : Prop :=
  ∃ (k : Nat) (v : List R), k ≤ 8 ∧ At a 14 (.int .i64 (k : Int)) ∧ v.length = 16 ∧ (∀ j, j < k → g v j = g h j) ∧ (∀ j, j < k → g v (j + 8) = g ivL j) ∧ RJ w h m count last G Ib V h v a wr
def RI4 (w : World) (h : List R) (m : List R) (count : Nat) (last : Bool) (G Ib V : Nat) (a : Act) (wr : World) : Prop :=
  ∃ r : Nat, r ≤ 10 ∧ At a 15 (.int .i64 (r : Int)) ∧ RJ w h m count last G Ib V h (roundsL m r (startL h count last)) a wr
def RI6 (w : World) (h : List R) (m : List R) (count : Nat) (last : Bool) (G Ib V r : Nat) (a : Act) (wr : World) : Prop :=
  ∃ k : Nat, k ≤ 8 ∧ At a 15 (.int .i64 (r : Int)) ∧ At a 16 (.string ⟨(permS r).toArray⟩) ∧ At a 17 (.int .i64 (k : Int)) ∧ RJ w h m count last G Ib V h (roundK m r k (roundsL m r (startL h count last))) a wr
def RI8 (w : World) (h : List R) (m : List R) (count : Nat) (last : Bool) (G Ib V : Nat) (vv : List R) (a : Act) (wr : World) : Prop :=
  ∃ (k : Nat) (l : List R), k ≤ 8 ∧ At a 19 (.int .i64 (k : Int)) ∧ l.length = 8 ∧ (∀ j, j < k → g l j = g h j ^^^ (g vv j ^^^ g vv (j + 8))) ∧ (∀ j, k ≤ j → g l j = g h j) ∧ RJ w h m count last G Ib V l vv a wr

set_option maxRecDepth 100000 in
set_option maxHeartbeats 4000000 in
theorem rcompress_any (h : List R) (block : ByteArray) (count : Nat) (last : Bool) (w : World) (hh : h.length = 8) (hs : block.size ≤ 140737488351232) (hcount : count < 18446744073709551616) :
    Calls Tryd.prog 16 #[av h, .string block, .int .u64 (count : Int), .bool last] w fun e w' => e = .returned (cmpV h block.data.toList count last) ∧ Below w.heap.size w w' := by
  have hsz : (wvs h).toArray.size = 8 := by simp [wvs_len, hh]
  have hA0 : Arr 32 ((w.alloc (.cells (wvs h).toArray 32)).alloc (.cells (wvs zeros8).toArray 32)) w.heap.size h := arr_old (arr_new w h _) _
  have hR0 : Arr 32 ((w.alloc (.cells (wvs h).toArray 32)).alloc (.cells (wvs zeros8).toArray 32)) (w.heap.size + 1) zeros8 := by
    have := arr_new (w.alloc (.cells (wvs h).toArray 32)) zeros8 32
    rw [show (w.alloc (.cells (wvs h).toArray 32)).heap.size = w.heap.size + 1 by simp] at this
    exact this
  have hB0 : Below w.heap.size w ((w.alloc (.cells (wvs h).toArray 32)).alloc (.cells (wvs zeros8).toArray 32)) := ((Below.refl _ _).alloc (Nat.le_refl _) _).alloc (by simp) _
  unfold cmpV av
  by_cases h64 : block.size = 64
  case neg =>
    have d1 : ((block.size : Int) != 64) = true := by rw [bne_iff_ne]; omega
    rw [if_neg (show ¬ block.data.toList.length = 64 from h64)]
    have hz8 := ir8 zeros8 rfl
    have hR9 := setRow_heap _ (w.heap.size + 1) _ (wvs zeros8).toArray _ _ hR0
    have hB9 := below_setRow hB0 (show w.heap.size ≤ w.heap.size + 1 by omega) (wvs zeros8).toArray
    go_enter Tryd.func16, Tryd.ntmps16
    go_wp2_with (refine wpList_store_row rfl 32 (.tmp 8) (.tmp 23) rfl (w.heap.size + 1) (wvs zeros8).toArray rfl rfl 32 _ hR0 hz8 rfl (wvs_one _) ?_)
    exact bodyPost_ret (results_cell_tmp rfl _ _ (w.heap.size + 1) 32 _ (0, 0) _ _ rfl rfl hR9 Tryd.underlying32 rfl hz8) rfl ⟨rfl, hB9⟩
  have d1 : ((block.size : Int) != 64) = false := by rw [bne_eq_false_iff_eq]; omega
  have hbl : block.data.toList.length = 64 := h64
  rw [if_pos hbl]
  have hgsz : ((w.alloc (.cells (wvs h).toArray 32)).alloc (.cells (wvs zeros8).toArray 32)).heap.size = w.heap.size + 1 + 1 := by simp
  have hM1 := arr_new ((w.alloc (.cells (wvs h).toArray 32)).alloc (.cells (wvs zeros8).toArray 32)) zeros16 48
  rw [hgsz] at hM1
  have hA1 := arr_old hA0 (.cells (wvs zeros16).toArray 48)
  have hR1 := arr_old hR0 (.cells (wvs zeros16).toArray 48)
  have hB1 := hB0.alloc hB0.size (.cells (wvs zeros16).toArray 48)
  clear hA0 hR0 hB0
  go_enter Tryd.func16, Tryd.ntmps16
  go_wp2_with fail
  change Code.wp _ _ _ _ (((w.alloc (.cells (wvs h).toArray 32)).alloc (.cells (wvs zeros8).toArray 32)).alloc (.cells (wvs zeros16).toArray 48))
  generalize ((w.alloc (.cells (wvs h).toArray 32)).alloc (.cells (wvs zeros8).toArray 32)).alloc (.cells (wvs zeros16).toArray 48) = w0 at hA1 hM1 hR1 hB1 ⊢
  rename_i Qf Kf hKf
  obtain ⟨G, hG⟩ : ∃ G, w.heap.size = G := ⟨_, rfl⟩
  have hGle : w.heap.size ≤ G := by omega
  have hGle2 : w.heap.size ≤ G + 1 + 1 := by omega
  rw [hG] at hA1 hM1 hR1 ⊢
  refine wp_loop (RI1 w h block.data.toList block count last G) (MUR 11 64) ⟨0, by omega, rfl, rfl, rfl, rfl, rfl, rfl, rfl, rfl, rfl, hA1, hR1, hM1, hB1⟩ (fun a wr hI => ?_)
  clear hA1 hR1 hM1 hB1
  obtain ⟨k, hk, hsz, hdf, y1, y2, y3, y4, y8, y10, y11, hA, hR, hM, hB⟩ := hI
  have hmu : MUR 11 64 a wr = 64 - k := by unfold MUR; rw [y11.eval]; simp [intOf]
  rw [hmu]
  clear hmu
  have hsN := hsz
  have S0 := Same.refl a 0 1000
  refine wp_seq ?_
  refine wp_seq ?_
  refine wp_region_lit ?_
  refine list_val (v := (.int .i64 (k : Int))) rfl (ex_move rfl y11.eval _) ?_
  show wpList _ _ _ _ (a.put (some 24) (.int .i64 (k : Int))) _
  have f1_1 := y1.ne (n := 24) (by decide) (.int .i64 (k : Int))
  have f1_2 := y2.ne (n := 24) (by decide) (.int .i64 (k : Int))
  have f1_3 := y3.ne (n := 24) (by decide) (.int .i64 (k : Int))
  have f1_4 := y4.ne (n := 24) (by decide) (.int .i64 (k : Int))
  have f1_8 := y8.ne (n := 24) (by decide) (.int .i64 (k : Int))
  have f1_10 := y10.ne (n := 24) (by decide) (.int .i64 (k : Int))
  have f1_11 := y11.ne (n := 24) (by decide) (.int .i64 (k : Int))
  have f1_24 := At.put (a := a) (n := 24) (by rw [S0.1, hsN]; decide) (.int .i64 (k : Int))
  have S1 := S0.put (n := 24) (by decide) (by decide) (.int .i64 (k : Int))
  generalize a.put (some 24) (.int .i64 (k : Int)) = a1 at S1 f1_1 f1_2 f1_3 f1_4 f1_8 f1_10 f1_11 f1_24 ⊢
  refine list_val (v := (.bool (decide (k < 64)))) rfl (ex_less rfl f1_24 _) ?_
  show wpList _ _ _ _ (a1.put (some 25) (.bool (decide (k < 64)))) _
  have f2_1 := f1_1.ne (n := 25) (by decide) (.bool (decide (k < 64)))
  have f2_2 := f1_2.ne (n := 25) (by decide) (.bool (decide (k < 64)))
  have f2_3 := f1_3.ne (n := 25) (by decide) (.bool (decide (k < 64)))
  have f2_4 := f1_4.ne (n := 25) (by decide) (.bool (decide (k < 64)))
  have f2_8 := f1_8.ne (n := 25) (by decide) (.bool (decide (k < 64)))
  have f2_10 := f1_10.ne (n := 25) (by decide) (.bool (decide (k < 64)))
  have f2_11 := f1_11.ne (n := 25) (by decide) (.bool (decide (k < 64)))
  have f2_25 := At.put (a := a1) (n := 25) (by rw [S1.1, hsN]; decide) (.bool (decide (k < 64)))
  have S2 := S1.put (n := 25) (by decide) (by decide) (.bool (decide (k < 64)))
  generalize a1.put (some 25) (.bool (decide (k < 64))) = a2 at S2 f2_1 f2_2 f2_3 f2_4 f2_8 f2_10 f2_11 f2_25 ⊢
  refine wpList_nil ?_
  show Code.wp _ _ _ a2 wr
  by_cases hlt : k < 64
  · rw [decide_eq_true hlt] at f2_25
    refine wp_cond_true f2_25.eval ?_
    refine wp_skip ?_
    show Code.wp _ _ _ a2 wr
    refine wp_seq ?_
    refine wp_block ?_
    have e1 := hM.drew.cell (k / 4) (by rw [mloop_len]; omega)
    have f1 := hM.drew.froz (k / 4)
    have hbg := byte_get block k (by omega)
    have hsh : 8 * (k % 4) = 0 ∨ 8 * (k % 4) = 8 ∨ 8 * (k % 4) = 16 ∨ 8 * (k % 4) = 24 := by omega
    refine wp_region_still_tail 17 (by kernel_rfl) (by kernel_rfl) ?_
    simp only [List.take_succ_cons, List.take_zero, List.drop_succ_cons, List.drop_zero]
    refine still_val (v := (.int .i64 (k : Int))) rfl (ex_move rfl f2_11.eval _) ?_
    show wpStill _ _ _ _ _ (a2.put (some 28) (.int .i64 (k : Int)))
    have f3_1 := f2_1.ne (n := 28) (by decide) (.int .i64 (k : Int))
    have f3_2 := f2_2.ne (n := 28) (by decide) (.int .i64 (k : Int))
    have f3_3 := f2_3.ne (n := 28) (by decide) (.int .i64 (k : Int))
    have f3_4 := f2_4.ne (n := 28) (by decide) (.int .i64 (k : Int))
    have f3_8 := f2_8.ne (n := 28) (by decide) (.int .i64 (k : Int))
    have f3_10 := f2_10.ne (n := 28) (by decide) (.int .i64 (k : Int))
    have f3_11 := f2_11.ne (n := 28) (by decide) (.int .i64 (k : Int))
    have f3_28 := At.put (a := a2) (n := 28) (by rw [S2.1, hsN]; decide) (.int .i64 (k : Int))
    have S3 := S2.put (n := 28) (by decide) (by decide) (.int .i64 (k : Int))
    generalize a2.put (some 28) (.int .i64 (k : Int)) = a3 at S3 f3_1 f3_2 f3_3 f3_4 f3_8 f3_10 f3_11 f3_28 ⊢
    refine still_val (v := (.int .i64 ((k / 4 : Nat) : Int))) rfl (ex_quo4 rfl f3_28 (by omega) _) ?_
    show wpStill _ _ _ _ _ (a3.put (some 29) (.int .i64 ((k / 4 : Nat) : Int)))
    have f4_1 := f3_1.ne (n := 29) (by decide) (.int .i64 ((k / 4 : Nat) : Int))
    have f4_2 := f3_2.ne (n := 29) (by decide) (.int .i64 ((k / 4 : Nat) : Int))
    have f4_3 := f3_3.ne (n := 29) (by decide) (.int .i64 ((k / 4 : Nat) : Int))
    have f4_4 := f3_4.ne (n := 29) (by decide) (.int .i64 ((k / 4 : Nat) : Int))
    have f4_8 := f3_8.ne (n := 29) (by decide) (.int .i64 ((k / 4 : Nat) : Int))
    have f4_10 := f3_10.ne (n := 29) (by decide) (.int .i64 ((k / 4 : Nat) : Int))
    have f4_11 := f3_11.ne (n := 29) (by decide) (.int .i64 ((k / 4 : Nat) : Int))
    have f4_29 := At.put (a := a3) (n := 29) (by rw [S3.1, hsN]; decide) (.int .i64 ((k / 4 : Nat) : Int))
    have S4 := S3.put (n := 29) (by decide) (by decide) (.int .i64 ((k / 4 : Nat) : Int))
    generalize a3.put (some 29) (.int .i64 ((k / 4 : Nat) : Int)) = a4 at S4 f4_1 f4_2 f4_3 f4_4 f4_8 f4_10 f4_11 f4_29 ⊢
    refine still_val (v := (.int .i64 (k : Int))) rfl (ex_move rfl f4_11.eval _) ?_
    show wpStill _ _ _ _ _ (a4.put (some 30) (.int .i64 (k : Int)))
    have f5_1 := f4_1.ne (n := 30) (by decide) (.int .i64 (k : Int))
    have f5_2 := f4_2.ne (n := 30) (by decide) (.int .i64 (k : Int))
    have f5_3 := f4_3.ne (n := 30) (by decide) (.int .i64 (k : Int))
    have f5_4 := f4_4.ne (n := 30) (by decide) (.int .i64 (k : Int))
    have f5_8 := f4_8.ne (n := 30) (by decide) (.int .i64 (k : Int))
    have f5_10 := f4_10.ne (n := 30) (by decide) (.int .i64 (k : Int))
    have f5_11 := f4_11.ne (n := 30) (by decide) (.int .i64 (k : Int))
    have f5_29 := f4_29.ne (n := 30) (by decide) (.int .i64 (k : Int))
    have f5_30 := At.put (a := a4) (n := 30) (by rw [S4.1, hsN]; decide) (.int .i64 (k : Int))
    have S5 := S4.put (n := 30) (by decide) (by decide) (.int .i64 (k : Int))
    generalize a4.put (some 30) (.int .i64 (k : Int)) = a5 at S5 f5_1 f5_2 f5_3 f5_4 f5_8 f5_10 f5_11 f5_29 f5_30 ⊢
    refine still_val (v := (.int .i64 ((k / 4 : Nat) : Int))) rfl (ex_quo4 rfl f5_30 (by omega) _) ?_
    show wpStill _ _ _ _ _ (a5.put (some 31) (.int .i64 ((k / 4 : Nat) : Int)))
    have f6_1 := f5_1.ne (n := 31) (by decide) (.int .i64 ((k / 4 : Nat) : Int))
    have f6_2 := f5_2.ne (n := 31) (by decide) (.int .i64 ((k / 4 : Nat) : Int))
    have f6_3 := f5_3.ne (n := 31) (by decide) (.int .i64 ((k / 4 : Nat) : Int))
    have f6_4 := f5_4.ne (n := 31) (by decide) (.int .i64 ((k / 4 : Nat) : Int))
    have f6_8 := f5_8.ne (n := 31) (by decide) (.int .i64 ((k / 4 : Nat) : Int))
    have f6_10 := f5_10.ne (n := 31) (by decide) (.int .i64 ((k / 4 : Nat) : Int))
    have f6_11 := f5_11.ne (n := 31) (by decide) (.int .i64 ((k / 4 : Nat) : Int))
    have f6_29 := f5_29.ne (n := 31) (by decide) (.int .i64 ((k / 4 : Nat) : Int))
    have f6_31 := At.put (a := a5) (n := 31) (by rw [S5.1, hsN]; decide) (.int .i64 ((k / 4 : Nat) : Int))
    have S6 := S5.put (n := 31) (by decide) (by decide) (.int .i64 ((k / 4 : Nat) : Int))
    generalize a5.put (some 31) (.int .i64 ((k / 4 : Nat) : Int)) = a6 at S6 f6_1 f6_2 f6_3 f6_4 f6_8 f6_10 f6_11 f6_29 f6_31 ⊢
    refine still_val (v := (.pointer (some ⟨G + 1 + 1, k / 4, none⟩))) rfl (ex_idx16 rfl f6_10.eval f6_31.eval (by omega) _) ?_
    show wpStill _ _ _ _ _ (a6.put (some 32) (.pointer (some ⟨G + 1 + 1, k / 4, none⟩)))
    have f7_1 := f6_1.ne (n := 32) (by decide) (.pointer (some ⟨G + 1 + 1, k / 4, none⟩))
    have f7_2 := f6_2.ne (n := 32) (by decide) (.pointer (some ⟨G + 1 + 1, k / 4, none⟩))
    have f7_3 := f6_3.ne (n := 32) (by decide) (.pointer (some ⟨G + 1 + 1, k / 4, none⟩))
    have f7_4 := f6_4.ne (n := 32) (by decide) (.pointer (some ⟨G + 1 + 1, k / 4, none⟩))
    have f7_8 := f6_8.ne (n := 32) (by decide) (.pointer (some ⟨G + 1 + 1, k / 4, none⟩))
    have f7_10 := f6_10.ne (n := 32) (by decide) (.pointer (some ⟨G + 1 + 1, k / 4, none⟩))
    have f7_11 := f6_11.ne (n := 32) (by decide) (.pointer (some ⟨G + 1 + 1, k / 4, none⟩))
    have f7_29 := f6_29.ne (n := 32) (by decide) (.pointer (some ⟨G + 1 + 1, k / 4, none⟩))
    have f7_32 := At.put (a := a6) (n := 32) (by rw [S6.1, hsN]; decide) (.pointer (some ⟨G + 1 + 1, k / 4, none⟩))
    have S7 := S6.put (n := 32) (by decide) (by decide) (.pointer (some ⟨G + 1 + 1, k / 4, none⟩))
    generalize a6.put (some 32) (.pointer (some ⟨G + 1 + 1, k / 4, none⟩)) = a7 at S7 f7_1 f7_2 f7_3 f7_4 f7_8 f7_10 f7_11 f7_29 f7_32 ⊢
    refine still_val (v := (wv (g (mloop block.data.toList k) (k / 4)))) rfl (ex_load32 rfl f7_32.eval e1) ?_
    show wpStill _ _ _ _ _ (a7.put (some 33) (wv (g (mloop block.data.toList k) (k / 4))))
    have f8_1 := f7_1.ne (n := 33) (by decide) (wv (g (mloop block.data.toList k) (k / 4)))
    have f8_2 := f7_2.ne (n := 33) (by decide) (wv (g (mloop block.data.toList k) (k / 4)))
    have f8_3 := f7_3.ne (n := 33) (by decide) (wv (g (mloop block.data.toList k) (k / 4)))
    have f8_4 := f7_4.ne (n := 33) (by decide) (wv (g (mloop block.data.toList k) (k / 4)))
    have f8_8 := f7_8.ne (n := 33) (by decide) (wv (g (mloop block.data.toList k) (k / 4)))
    have f8_10 := f7_10.ne (n := 33) (by decide) (wv (g (mloop block.data.toList k) (k / 4)))
    have f8_11 := f7_11.ne (n := 33) (by decide) (wv (g (mloop block.data.toList k) (k / 4)))
    have f8_29 := f7_29.ne (n := 33) (by decide) (wv (g (mloop block.data.toList k) (k / 4)))
    have f8_33 := At.put (a := a7) (n := 33) (by rw [S7.1, hsN]; decide) (wv (g (mloop block.data.toList k) (k / 4)))
    have S8 := S7.put (n := 33) (by decide) (by decide) (wv (g (mloop block.data.toList k) (k / 4)))
    generalize a7.put (some 33) (wv (g (mloop block.data.toList k) (k / 4))) = a8 at S8 f8_1 f8_2 f8_3 f8_4 f8_8 f8_10 f8_11 f8_29 f8_33 ⊢
    refine still_val (v := (.string block)) rfl (ex_move rfl f8_1.eval _) ?_
    show wpStill _ _ _ _ _ (a8.put (some 34) (.string block))
    have f9_1 := f8_1.ne (n := 34) (by decide) (.string block)
    have f9_2 := f8_2.ne (n := 34) (by decide) (.string block)
    have f9_3 := f8_3.ne (n := 34) (by decide) (.string block)
    have f9_4 := f8_4.ne (n := 34) (by decide) (.string block)
    have f9_8 := f8_8.ne (n := 34) (by decide) (.string block)
    have f9_10 := f8_10.ne (n := 34) (by decide) (.string block)
    have f9_11 := f8_11.ne (n := 34) (by decide) (.string block)
    have f9_29 := f8_29.ne (n := 34) (by decide) (.string block)
    have f9_33 := f8_33.ne (n := 34) (by decide) (.string block)
    have f9_34 := At.put (a := a8) (n := 34) (by rw [S8.1, hsN]; decide) (.string block)
    have S9 := S8.put (n := 34) (by decide) (by decide) (.string block)
    generalize a8.put (some 34) (.string block) = a9 at S9 f9_1 f9_2 f9_3 f9_4 f9_8 f9_10 f9_11 f9_29 f9_33 f9_34 ⊢
    refine still_val (v := (.int .i64 (k : Int))) rfl (ex_move rfl f9_11.eval _) ?_
    show wpStill _ _ _ _ _ (a9.put (some 35) (.int .i64 (k : Int)))
    have f10_1 := f9_1.ne (n := 35) (by decide) (.int .i64 (k : Int))
    have f10_2 := f9_2.ne (n := 35) (by decide) (.int .i64 (k : Int))
    have f10_3 := f9_3.ne (n := 35) (by decide) (.int .i64 (k : Int))
    have f10_4 := f9_4.ne (n := 35) (by decide) (.int .i64 (k : Int))
    have f10_8 := f9_8.ne (n := 35) (by decide) (.int .i64 (k : Int))
    have f10_10 := f9_10.ne (n := 35) (by decide) (.int .i64 (k : Int))
    have f10_11 := f9_11.ne (n := 35) (by decide) (.int .i64 (k : Int))
    have f10_29 := f9_29.ne (n := 35) (by decide) (.int .i64 (k : Int))
    have f10_33 := f9_33.ne (n := 35) (by decide) (.int .i64 (k : Int))
    have f10_34 := f9_34.ne (n := 35) (by decide) (.int .i64 (k : Int))
    have f10_35 := At.put (a := a9) (n := 35) (by rw [S9.1, hsN]; decide) (.int .i64 (k : Int))
    have S10 := S9.put (n := 35) (by decide) (by decide) (.int .i64 (k : Int))
    generalize a9.put (some 35) (.int .i64 (k : Int)) = a10 at S10 f10_1 f10_2 f10_3 f10_4 f10_8 f10_10 f10_11 f10_29 f10_33 f10_34 f10_35 ⊢
    refine still_val (v := .int .u8 ((block.data.toList.getD k 0).toNat : Int)) rfl (by rw [← hbg]; exact ex_idxS rfl f10_34 f10_35 (by omega) _) ?_
    show wpStill _ _ _ _ _ (a10.put (some 36) (.int .u8 ((block.data.toList.getD k 0).toNat : Int)))
    have f11_1 := f10_1.ne (n := 36) (by decide) (.int .u8 ((block.data.toList.getD k 0).toNat : Int))
    have f11_2 := f10_2.ne (n := 36) (by decide) (.int .u8 ((block.data.toList.getD k 0).toNat : Int))
    have f11_3 := f10_3.ne (n := 36) (by decide) (.int .u8 ((block.data.toList.getD k 0).toNat : Int))
    have f11_4 := f10_4.ne (n := 36) (by decide) (.int .u8 ((block.data.toList.getD k 0).toNat : Int))
    have f11_8 := f10_8.ne (n := 36) (by decide) (.int .u8 ((block.data.toList.getD k 0).toNat : Int))
    have f11_10 := f10_10.ne (n := 36) (by decide) (.int .u8 ((block.data.toList.getD k 0).toNat : Int))
    have f11_11 := f10_11.ne (n := 36) (by decide) (.int .u8 ((block.data.toList.getD k 0).toNat : Int))
    have f11_29 := f10_29.ne (n := 36) (by decide) (.int .u8 ((block.data.toList.getD k 0).toNat : Int))
    have f11_33 := f10_33.ne (n := 36) (by decide) (.int .u8 ((block.data.toList.getD k 0).toNat : Int))
    have f11_36 := At.put (a := a10) (n := 36) (by rw [S10.1, hsN]; decide) (.int .u8 ((block.data.toList.getD k 0).toNat : Int))
    have S11 := S10.put (n := 36) (by decide) (by decide) (.int .u8 ((block.data.toList.getD k 0).toNat : Int))
    generalize a10.put (some 36) (.int .u8 ((block.data.toList.getD k 0).toNat : Int)) = a11 at S11 f11_1 f11_2 f11_3 f11_4 f11_8 f11_10 f11_11 f11_29 f11_33 f11_36 ⊢
    refine still_val (v := (wv (BitVec.ofNat 32 (block.data.toList.getD k 0).toNat))) rfl (ex_cvt8 rfl f11_36 _) ?_
    show wpStill _ _ _ _ _ (a11.put (some 37) (wv (BitVec.ofNat 32 (block.data.toList.getD k 0).toNat)))
    have f12_1 := f11_1.ne (n := 37) (by decide) (wv (BitVec.ofNat 32 (block.data.toList.getD k 0).toNat))
    have f12_2 := f11_2.ne (n := 37) (by decide) (wv (BitVec.ofNat 32 (block.data.toList.getD k 0).toNat))
    have f12_3 := f11_3.ne (n := 37) (by decide) (wv (BitVec.ofNat 32 (block.data.toList.getD k 0).toNat))
    have f12_4 := f11_4.ne (n := 37) (by decide) (wv (BitVec.ofNat 32 (block.data.toList.getD k 0).toNat))
    have f12_8 := f11_8.ne (n := 37) (by decide) (wv (BitVec.ofNat 32 (block.data.toList.getD k 0).toNat))
    have f12_10 := f11_10.ne (n := 37) (by decide) (wv (BitVec.ofNat 32 (block.data.toList.getD k 0).toNat))
    have f12_11 := f11_11.ne (n := 37) (by decide) (wv (BitVec.ofNat 32 (block.data.toList.getD k 0).toNat))
    have f12_29 := f11_29.ne (n := 37) (by decide) (wv (BitVec.ofNat 32 (block.data.toList.getD k 0).toNat))
    have f12_33 := f11_33.ne (n := 37) (by decide) (wv (BitVec.ofNat 32 (block.data.toList.getD k 0).toNat))
    have f12_37 := At.put (a := a11) (n := 37) (by rw [S11.1, hsN]; decide) (wv (BitVec.ofNat 32 (block.data.toList.getD k 0).toNat))
    have S12 := S11.put (n := 37) (by decide) (by decide) (wv (BitVec.ofNat 32 (block.data.toList.getD k 0).toNat))
    generalize a11.put (some 37) (wv (BitVec.ofNat 32 (block.data.toList.getD k 0).toNat)) = a12 at S12 f12_1 f12_2 f12_3 f12_4 f12_8 f12_10 f12_11 f12_29 f12_33 f12_37 ⊢
    refine still_val (v := (.int .i64 (k : Int))) rfl (ex_move rfl f12_11.eval _) ?_
    show wpStill _ _ _ _ _ (a12.put (some 38) (.int .i64 (k : Int)))
    have f13_1 := f12_1.ne (n := 38) (by decide) (.int .i64 (k : Int))
    have f13_2 := f12_2.ne (n := 38) (by decide) (.int .i64 (k : Int))
    have f13_3 := f12_3.ne (n := 38) (by decide) (.int .i64 (k : Int))
    have f13_4 := f12_4.ne (n := 38) (by decide) (.int .i64 (k : Int))
    have f13_8 := f12_8.ne (n := 38) (by decide) (.int .i64 (k : Int))
    have f13_10 := f12_10.ne (n := 38) (by decide) (.int .i64 (k : Int))
    have f13_11 := f12_11.ne (n := 38) (by decide) (.int .i64 (k : Int))
    have f13_29 := f12_29.ne (n := 38) (by decide) (.int .i64 (k : Int))
    have f13_33 := f12_33.ne (n := 38) (by decide) (.int .i64 (k : Int))
    have f13_37 := f12_37.ne (n := 38) (by decide) (.int .i64 (k : Int))
    have f13_38 := At.put (a := a12) (n := 38) (by rw [S12.1, hsN]; decide) (.int .i64 (k : Int))
    have S13 := S12.put (n := 38) (by decide) (by decide) (.int .i64 (k : Int))
    generalize a12.put (some 38) (.int .i64 (k : Int)) = a13 at S13 f13_1 f13_2 f13_3 f13_4 f13_8 f13_10 f13_11 f13_29 f13_33 f13_37 f13_38 ⊢
    refine still_val (v := (.int .i64 ((k % 4 : Nat) : Int))) rfl (ex_rem4 rfl f13_38 (by omega) _) ?_
    show wpStill _ _ _ _ _ (a13.put (some 39) (.int .i64 ((k % 4 : Nat) : Int)))
    have f14_1 := f13_1.ne (n := 39) (by decide) (.int .i64 ((k % 4 : Nat) : Int))
    have f14_2 := f13_2.ne (n := 39) (by decide) (.int .i64 ((k % 4 : Nat) : Int))
    have f14_3 := f13_3.ne (n := 39) (by decide) (.int .i64 ((k % 4 : Nat) : Int))
    have f14_4 := f13_4.ne (n := 39) (by decide) (.int .i64 ((k % 4 : Nat) : Int))
    have f14_8 := f13_8.ne (n := 39) (by decide) (.int .i64 ((k % 4 : Nat) : Int))
    have f14_10 := f13_10.ne (n := 39) (by decide) (.int .i64 ((k % 4 : Nat) : Int))
    have f14_11 := f13_11.ne (n := 39) (by decide) (.int .i64 ((k % 4 : Nat) : Int))
    have f14_29 := f13_29.ne (n := 39) (by decide) (.int .i64 ((k % 4 : Nat) : Int))
    have f14_33 := f13_33.ne (n := 39) (by decide) (.int .i64 ((k % 4 : Nat) : Int))
    have f14_37 := f13_37.ne (n := 39) (by decide) (.int .i64 ((k % 4 : Nat) : Int))
    have f14_39 := At.put (a := a13) (n := 39) (by rw [S13.1, hsN]; decide) (.int .i64 ((k % 4 : Nat) : Int))
    have S14 := S13.put (n := 39) (by decide) (by decide) (.int .i64 ((k % 4 : Nat) : Int))
    generalize a13.put (some 39) (.int .i64 ((k % 4 : Nat) : Int)) = a14 at S14 f14_1 f14_2 f14_3 f14_4 f14_8 f14_10 f14_11 f14_29 f14_33 f14_37 f14_39 ⊢
    refine still_val (v := (.int .i64 ((8 * (k % 4) : Nat) : Int))) rfl (ex_mulc (c := 8) rfl f14_39 (by omega) (by omega) _) ?_
    show wpStill _ _ _ _ _ (a14.put (some 40) (.int .i64 ((8 * (k % 4) : Nat) : Int)))
    have f15_1 := f14_1.ne (n := 40) (by decide) (.int .i64 ((8 * (k % 4) : Nat) : Int))
    have f15_2 := f14_2.ne (n := 40) (by decide) (.int .i64 ((8 * (k % 4) : Nat) : Int))
    have f15_3 := f14_3.ne (n := 40) (by decide) (.int .i64 ((8 * (k % 4) : Nat) : Int))
    have f15_4 := f14_4.ne (n := 40) (by decide) (.int .i64 ((8 * (k % 4) : Nat) : Int))
    have f15_8 := f14_8.ne (n := 40) (by decide) (.int .i64 ((8 * (k % 4) : Nat) : Int))
    have f15_10 := f14_10.ne (n := 40) (by decide) (.int .i64 ((8 * (k % 4) : Nat) : Int))
    have f15_11 := f14_11.ne (n := 40) (by decide) (.int .i64 ((8 * (k % 4) : Nat) : Int))
    have f15_29 := f14_29.ne (n := 40) (by decide) (.int .i64 ((8 * (k % 4) : Nat) : Int))
    have f15_33 := f14_33.ne (n := 40) (by decide) (.int .i64 ((8 * (k % 4) : Nat) : Int))
    have f15_37 := f14_37.ne (n := 40) (by decide) (.int .i64 ((8 * (k % 4) : Nat) : Int))
    have f15_40 := At.put (a := a14) (n := 40) (by rw [S14.1, hsN]; decide) (.int .i64 ((8 * (k % 4) : Nat) : Int))
    have S15 := S14.put (n := 40) (by decide) (by decide) (.int .i64 ((8 * (k % 4) : Nat) : Int))
    generalize a14.put (some 40) (.int .i64 ((8 * (k % 4) : Nat) : Int)) = a15 at S15 f15_1 f15_2 f15_3 f15_4 f15_8 f15_10 f15_11 f15_29 f15_33 f15_37 f15_40 ⊢
    refine still_val (v := (.int .u64 ((8 * (k % 4) : Nat) : Int))) rfl (ex_cvtUint rfl f15_40 (by omega) _) ?_
    show wpStill _ _ _ _ _ (a15.put (some 41) (.int .u64 ((8 * (k % 4) : Nat) : Int)))
    have f16_1 := f15_1.ne (n := 41) (by decide) (.int .u64 ((8 * (k % 4) : Nat) : Int))
    have f16_2 := f15_2.ne (n := 41) (by decide) (.int .u64 ((8 * (k % 4) : Nat) : Int))
    have f16_3 := f15_3.ne (n := 41) (by decide) (.int .u64 ((8 * (k % 4) : Nat) : Int))
    have f16_4 := f15_4.ne (n := 41) (by decide) (.int .u64 ((8 * (k % 4) : Nat) : Int))
    have f16_8 := f15_8.ne (n := 41) (by decide) (.int .u64 ((8 * (k % 4) : Nat) : Int))
    have f16_10 := f15_10.ne (n := 41) (by decide) (.int .u64 ((8 * (k % 4) : Nat) : Int))
    have f16_11 := f15_11.ne (n := 41) (by decide) (.int .u64 ((8 * (k % 4) : Nat) : Int))
    have f16_29 := f15_29.ne (n := 41) (by decide) (.int .u64 ((8 * (k % 4) : Nat) : Int))
    have f16_33 := f15_33.ne (n := 41) (by decide) (.int .u64 ((8 * (k % 4) : Nat) : Int))
    have f16_37 := f15_37.ne (n := 41) (by decide) (.int .u64 ((8 * (k % 4) : Nat) : Int))
    have f16_41 := At.put (a := a15) (n := 41) (by rw [S15.1, hsN]; decide) (.int .u64 ((8 * (k % 4) : Nat) : Int))
    have S16 := S15.put (n := 41) (by decide) (by decide) (.int .u64 ((8 * (k % 4) : Nat) : Int))
    generalize a15.put (some 41) (.int .u64 ((8 * (k % 4) : Nat) : Int)) = a16 at S16 f16_1 f16_2 f16_3 f16_4 f16_8 f16_10 f16_11 f16_29 f16_33 f16_37 f16_41 ⊢
    refine still_val (v := (wv ((BitVec.ofNat 32 (block.data.toList.getD k 0).toNat) <<< (8 * (k % 4))))) rfl (ex_shl rfl f16_37 f16_41 hsh _) ?_
    show wpStill _ _ _ _ _ (a16.put (some 42) (wv ((BitVec.ofNat 32 (block.data.toList.getD k 0).toNat) <<< (8 * (k % 4)))))
    have f17_1 := f16_1.ne (n := 42) (by decide) (wv ((BitVec.ofNat 32 (block.data.toList.getD k 0).toNat) <<< (8 * (k % 4))))
    have f17_2 := f16_2.ne (n := 42) (by decide) (wv ((BitVec.ofNat 32 (block.data.toList.getD k 0).toNat) <<< (8 * (k % 4))))
    have f17_3 := f16_3.ne (n := 42) (by decide) (wv ((BitVec.ofNat 32 (block.data.toList.getD k 0).toNat) <<< (8 * (k % 4))))
    have f17_4 := f16_4.ne (n := 42) (by decide) (wv ((BitVec.ofNat 32 (block.data.toList.getD k 0).toNat) <<< (8 * (k % 4))))
    have f17_8 := f16_8.ne (n := 42) (by decide) (wv ((BitVec.ofNat 32 (block.data.toList.getD k 0).toNat) <<< (8 * (k % 4))))
    have f17_10 := f16_10.ne (n := 42) (by decide) (wv ((BitVec.ofNat 32 (block.data.toList.getD k 0).toNat) <<< (8 * (k % 4))))
    have f17_11 := f16_11.ne (n := 42) (by decide) (wv ((BitVec.ofNat 32 (block.data.toList.getD k 0).toNat) <<< (8 * (k % 4))))
    have f17_29 := f16_29.ne (n := 42) (by decide) (wv ((BitVec.ofNat 32 (block.data.toList.getD k 0).toNat) <<< (8 * (k % 4))))
    have f17_33 := f16_33.ne (n := 42) (by decide) (wv ((BitVec.ofNat 32 (block.data.toList.getD k 0).toNat) <<< (8 * (k % 4))))
    have f17_42 := At.put (a := a16) (n := 42) (by rw [S16.1, hsN]; decide) (wv ((BitVec.ofNat 32 (block.data.toList.getD k 0).toNat) <<< (8 * (k % 4))))
    have S17 := S16.put (n := 42) (by decide) (by decide) (wv ((BitVec.ofNat 32 (block.data.toList.getD k 0).toNat) <<< (8 * (k % 4))))
    generalize a16.put (some 42) (wv ((BitVec.ofNat 32 (block.data.toList.getD k 0).toNat) <<< (8 * (k % 4)))) = a17 at S17 f17_1 f17_2 f17_3 f17_4 f17_8 f17_10 f17_11 f17_29 f17_33 f17_42 ⊢
    refine still_val (v := (wv (g (mloop block.data.toList k) (k / 4) ||| ((BitVec.ofNat 32 (block.data.toList.getD k 0).toNat) <<< (8 * (k % 4)))))) rfl (ex_or rfl f17_33 f17_42 _) ?_
    show wpStill _ _ _ _ _ (a17.put (some 43) (wv (g (mloop block.data.toList k) (k / 4) ||| ((BitVec.ofNat 32 (block.data.toList.getD k 0).toNat) <<< (8 * (k % 4))))))
    have f18_1 := f17_1.ne (n := 43) (by decide) (wv (g (mloop block.data.toList k) (k / 4) ||| ((BitVec.ofNat 32 (block.data.toList.getD k 0).toNat) <<< (8 * (k % 4)))))
    have f18_2 := f17_2.ne (n := 43) (by decide) (wv (g (mloop block.data.toList k) (k / 4) ||| ((BitVec.ofNat 32 (block.data.toList.getD k 0).toNat) <<< (8 * (k % 4)))))
    have f18_3 := f17_3.ne (n := 43) (by decide) (wv (g (mloop block.data.toList k) (k / 4) ||| ((BitVec.ofNat 32 (block.data.toList.getD k 0).toNat) <<< (8 * (k % 4)))))
    have f18_4 := f17_4.ne (n := 43) (by decide) (wv (g (mloop block.data.toList k) (k / 4) ||| ((BitVec.ofNat 32 (block.data.toList.getD k 0).toNat) <<< (8 * (k % 4)))))
    have f18_8 := f17_8.ne (n := 43) (by decide) (wv (g (mloop block.data.toList k) (k / 4) ||| ((BitVec.ofNat 32 (block.data.toList.getD k 0).toNat) <<< (8 * (k % 4)))))
    have f18_10 := f17_10.ne (n := 43) (by decide) (wv (g (mloop block.data.toList k) (k / 4) ||| ((BitVec.ofNat 32 (block.data.toList.getD k 0).toNat) <<< (8 * (k % 4)))))
    have f18_11 := f17_11.ne (n := 43) (by decide) (wv (g (mloop block.data.toList k) (k / 4) ||| ((BitVec.ofNat 32 (block.data.toList.getD k 0).toNat) <<< (8 * (k % 4)))))
    have f18_29 := f17_29.ne (n := 43) (by decide) (wv (g (mloop block.data.toList k) (k / 4) ||| ((BitVec.ofNat 32 (block.data.toList.getD k 0).toNat) <<< (8 * (k % 4)))))
    have f18_43 := At.put (a := a17) (n := 43) (by rw [S17.1, hsN]; decide) (wv (g (mloop block.data.toList k) (k / 4) ||| ((BitVec.ofNat 32 (block.data.toList.getD k 0).toNat) <<< (8 * (k % 4)))))
    have S18 := S17.put (n := 43) (by decide) (by decide) (wv (g (mloop block.data.toList k) (k / 4) ||| ((BitVec.ofNat 32 (block.data.toList.getD k 0).toNat) <<< (8 * (k % 4)))))
    generalize a17.put (some 43) (wv (g (mloop block.data.toList k) (k / 4) ||| ((BitVec.ofNat 32 (block.data.toList.getD k 0).toNat) <<< (8 * (k % 4))))) = a18 at S18 f18_1 f18_2 f18_3 f18_4 f18_8 f18_10 f18_11 f18_29 f18_43 ⊢
    refine still_val (v := (.pointer (some ⟨G + 1 + 1, k / 4, none⟩))) rfl (ex_idx16 rfl f18_10.eval f18_29.eval (by omega) _) ?_
    show wpStill _ _ _ _ _ (a18.put (some 44) (.pointer (some ⟨G + 1 + 1, k / 4, none⟩)))
    have f19_1 := f18_1.ne (n := 44) (by decide) (.pointer (some ⟨G + 1 + 1, k / 4, none⟩))
    have f19_2 := f18_2.ne (n := 44) (by decide) (.pointer (some ⟨G + 1 + 1, k / 4, none⟩))
    have f19_3 := f18_3.ne (n := 44) (by decide) (.pointer (some ⟨G + 1 + 1, k / 4, none⟩))
    have f19_4 := f18_4.ne (n := 44) (by decide) (.pointer (some ⟨G + 1 + 1, k / 4, none⟩))
    have f19_8 := f18_8.ne (n := 44) (by decide) (.pointer (some ⟨G + 1 + 1, k / 4, none⟩))
    have f19_10 := f18_10.ne (n := 44) (by decide) (.pointer (some ⟨G + 1 + 1, k / 4, none⟩))
    have f19_11 := f18_11.ne (n := 44) (by decide) (.pointer (some ⟨G + 1 + 1, k / 4, none⟩))
    have f19_43 := f18_43.ne (n := 44) (by decide) (.pointer (some ⟨G + 1 + 1, k / 4, none⟩))
    have f19_44 := At.put (a := a18) (n := 44) (by rw [S18.1, hsN]; decide) (.pointer (some ⟨G + 1 + 1, k / 4, none⟩))
    have S19 := S18.put (n := 44) (by decide) (by decide) (.pointer (some ⟨G + 1 + 1, k / 4, none⟩))
    generalize a18.put (some 44) (.pointer (some ⟨G + 1 + 1, k / 4, none⟩)) = a19 at S19 f19_1 f19_2 f19_3 f19_4 f19_8 f19_10 f19_11 f19_43 f19_44 ⊢
    refine wpStill_nil ?_
    refine list_skip rfl rfl (ex_store32 rfl f19_44.eval f19_43.eval e1 f1) ?_
    refine wpList_nil ?_
    show Code.wp _ _ _ a19 (wr.drew.setCell ⟨G + 1 + 1, k / 4, none⟩ (wv (g (mloop block.data.toList k) (k / 4) ||| ((BitVec.ofNat 32 (block.data.toList.getD k 0).toNat) <<< (8 * (k % 4))))))
    have hM2 : Arr 48 (wr.drew.setCell ⟨G + 1 + 1, k / 4, none⟩ (wv (g (mloop block.data.toList k) (k / 4) ||| ((BitVec.ofNat 32 (block.data.toList.getD k 0).toNat) <<< (8 * (k % 4)))))) (G + 1 + 1) (mloop block.data.toList (k + 1)) := hM.drew.set (k / 4) (g (mloop block.data.toList k) (k / 4) ||| ((BitVec.ofNat 32 (block.data.toList.getD k 0).toNat) <<< (8 * (k % 4))))
    have hA2 := hA.drew.far (by omega : G ≠ G + 1 + 1) (i := k / 4) (wv (g (mloop block.data.toList k) (k / 4) ||| ((BitVec.ofNat 32 (block.data.toList.getD k 0).toNat) <<< (8 * (k % 4)))))
    have hR2 := hR.drew.far (by omega : G + 1 ≠ G + 1 + 1) (i := k / 4) (wv (g (mloop block.data.toList k) (k / 4) ||| ((BitVec.ofNat 32 (block.data.toList.getD k 0).toNat) <<< (8 * (k % 4)))))
    have hB2 := hB.drew.setCell (p := ⟨G + 1 + 1, k / 4, none⟩) hGle2 (wv (g (mloop block.data.toList k) (k / 4) ||| ((BitVec.ofNat 32 (block.data.toList.getD k 0).toNat) <<< (8 * (k % 4)))))
    generalize wr.drew.setCell ⟨G + 1 + 1, k / 4, none⟩ (wv (g (mloop block.data.toList k) (k / 4) ||| ((BitVec.ofNat 32 (block.data.toList.getD k 0).toNat) <<< (8 * (k % 4))))) = w2 at hM2 hA2 hR2 hB2 ⊢
    refine wp_region_lit ?_
    refine list_val (v := (.int .i64 (k : Int))) rfl (ex_move rfl f19_11.eval _) ?_
    show wpList _ _ _ _ (a19.put (some 26) (.int .i64 (k : Int))) _
    have f20_1 := f19_1.ne (n := 26) (by decide) (.int .i64 (k : Int))
    have f20_2 := f19_2.ne (n := 26) (by decide) (.int .i64 (k : Int))
    have f20_3 := f19_3.ne (n := 26) (by decide) (.int .i64 (k : Int))
    have f20_4 := f19_4.ne (n := 26) (by decide) (.int .i64 (k : Int))
    have f20_8 := f19_8.ne (n := 26) (by decide) (.int .i64 (k : Int))
    have f20_10 := f19_10.ne (n := 26) (by decide) (.int .i64 (k : Int))
    have f20_11 := f19_11.ne (n := 26) (by decide) (.int .i64 (k : Int))
    have f20_26 := At.put (a := a19) (n := 26) (by rw [S19.1, hsN]; decide) (.int .i64 (k : Int))
    have S20 := S19.put (n := 26) (by decide) (by decide) (.int .i64 (k : Int))
    generalize a19.put (some 26) (.int .i64 (k : Int)) = a20 at S20 f20_1 f20_2 f20_3 f20_4 f20_8 f20_10 f20_11 f20_26 ⊢
    refine list_val (v := (.int .i64 ((k + 1 : Nat) : Int))) rfl (ex_next rfl f20_26 (by omega) _) ?_
    show wpList _ _ _ _ (a20.put (some 27) (.int .i64 ((k + 1 : Nat) : Int))) _
    have f21_1 := f20_1.ne (n := 27) (by decide) (.int .i64 ((k + 1 : Nat) : Int))
    have f21_2 := f20_2.ne (n := 27) (by decide) (.int .i64 ((k + 1 : Nat) : Int))
    have f21_3 := f20_3.ne (n := 27) (by decide) (.int .i64 ((k + 1 : Nat) : Int))
    have f21_4 := f20_4.ne (n := 27) (by decide) (.int .i64 ((k + 1 : Nat) : Int))
    have f21_8 := f20_8.ne (n := 27) (by decide) (.int .i64 ((k + 1 : Nat) : Int))
    have f21_10 := f20_10.ne (n := 27) (by decide) (.int .i64 ((k + 1 : Nat) : Int))
    have f21_11 := f20_11.ne (n := 27) (by decide) (.int .i64 ((k + 1 : Nat) : Int))
    have f21_27 := At.put (a := a20) (n := 27) (by rw [S20.1, hsN]; decide) (.int .i64 ((k + 1 : Nat) : Int))
    have S21 := S20.put (n := 27) (by decide) (by decide) (.int .i64 ((k + 1 : Nat) : Int))
    generalize a20.put (some 27) (.int .i64 ((k + 1 : Nat) : Int)) = a21 at S21 f21_1 f21_2 f21_3 f21_4 f21_8 f21_10 f21_11 f21_27 ⊢
    refine list_val (v := (.int .i64 ((k + 1 : Nat) : Int))) rfl (ex_assign rfl f21_27.eval _) ?_
    show wpList _ _ _ _ (a21.put (some 11) (.int .i64 ((k + 1 : Nat) : Int))) _
    have f22_1 := f21_1.ne (n := 11) (by decide) (.int .i64 ((k + 1 : Nat) : Int))
    have f22_2 := f21_2.ne (n := 11) (by decide) (.int .i64 ((k + 1 : Nat) : Int))
    have f22_3 := f21_3.ne (n := 11) (by decide) (.int .i64 ((k + 1 : Nat) : Int))
    have f22_4 := f21_4.ne (n := 11) (by decide) (.int .i64 ((k + 1 : Nat) : Int))
    have f22_8 := f21_8.ne (n := 11) (by decide) (.int .i64 ((k + 1 : Nat) : Int))
    have f22_10 := f21_10.ne (n := 11) (by decide) (.int .i64 ((k + 1 : Nat) : Int))
    have f22_11 := At.put (a := a21) (n := 11) (by rw [S21.1, hsN]; decide) (.int .i64 ((k + 1 : Nat) : Int))
    have S22 := S21.put (n := 11) (by decide) (by decide) (.int .i64 ((k + 1 : Nat) : Int))
    generalize a21.put (some 11) (.int .i64 ((k + 1 : Nat) : Int)) = a22 at S22 f22_1 f22_2 f22_3 f22_4 f22_8 f22_10 f22_11 ⊢
    refine wpList_nil ?_
    show RI1 w h block.data.toList block count last G a22 w2 ∧ MUR 11 64 a22 w2 < 64 - k
    refine ⟨⟨k + 1, by omega, by rw [S22.1, hsN], by rw [S22.2.1, hdf], f22_1, f22_2, f22_3, f22_4, f22_8, f22_10, f22_11, hA2, hR2, hM2, hB2⟩, ?_⟩
    unfold MUR
    rw [f22_11.eval]
    simp only [intOf]
    omega
  · obtain rfl : k = 64 := by omega
    rw [decide_eq_false hlt] at f2_25
    refine wp_cond_false f2_25.eval ?_
    refine wp_exit ?_
    show Kf a2 wr
    refine hKf _ _ ?_
    rw [mloop_all] at hM
    clear hKf hlt
    refine wp_seq ?_
    refine wp_region_lit ?_
    refine list_enter (v := av ivL) (R := fun w' => Below wr.heap.size wr w') rfl (ex_call0 ent_Initial rfl _) (rinit_any wr) (fun w1 hb1 => ?_)
    show wpList _ _ _ _ (a2.put (some 45) (av ivL)) _
    have f23_2 := f2_2.ne (n := 45) (by decide) (av ivL)
    have f23_3 := f2_3.ne (n := 45) (by decide) (av ivL)
    have f23_4 := f2_4.ne (n := 45) (by decide) (av ivL)
    have f23_8 := f2_8.ne (n := 45) (by decide) (av ivL)
    have f23_10 := f2_10.ne (n := 45) (by decide) (av ivL)
    have f23_45 := At.put (a := a2) (n := 45) (by rw [S2.1, hsN]; decide) (av ivL)
    have S23 := S2.put (n := 45) (by decide) (by decide) (av ivL)
    generalize a2.put (some 45) (av ivL) = a23 at S23 f23_2 f23_3 f23_4 f23_8 f23_10 f23_45 ⊢
    have hA1 := hA.below hb1
    have hR1 := hR.below hb1
    have hM1 := hM.below hb1
    have hB1 := chain hB hb1
    obtain ⟨Ib, hIb⟩ : ∃ x, w1.heap.size = x := ⟨_, rfl⟩
    have hlI := hM1.lt
    rw [hIb] at hlI
    refine list_any rfl (ex_alloc8 rfl w1) ?_
    rw [hIb]
    show wpList _ _ _ _ (a23.put (some 12) (.pointer (some ⟨Ib, 0, none⟩))) _
    have f24_2 := f23_2.ne (n := 12) (by decide) (.pointer (some ⟨Ib, 0, none⟩))
    have f24_3 := f23_3.ne (n := 12) (by decide) (.pointer (some ⟨Ib, 0, none⟩))
    have f24_4 := f23_4.ne (n := 12) (by decide) (.pointer (some ⟨Ib, 0, none⟩))
    have f24_8 := f23_8.ne (n := 12) (by decide) (.pointer (some ⟨Ib, 0, none⟩))
    have f24_10 := f23_10.ne (n := 12) (by decide) (.pointer (some ⟨Ib, 0, none⟩))
    have f24_45 := f23_45.ne (n := 12) (by decide) (.pointer (some ⟨Ib, 0, none⟩))
    have f24_12 := At.put (a := a23) (n := 12) (by rw [S23.1, hsN]; decide) (.pointer (some ⟨Ib, 0, none⟩))
    have S24 := S23.put (n := 12) (by decide) (by decide) (.pointer (some ⟨Ib, 0, none⟩))
    generalize a23.put (some 12) (.pointer (some ⟨Ib, 0, none⟩)) = a24 at S24 f24_2 f24_3 f24_4 f24_8 f24_10 f24_45 f24_12 ⊢
    have hI2 := arr_new w1 zeros8 32
    rw [hIb] at hI2
    have hA2 := arr_old hA1 (.cells (wvs zeros8).toArray 32)
    have hR2 := arr_old hR1 (.cells (wvs zeros8).toArray 32)
    have hM2 := arr_old hM1 (.cells (wvs zeros8).toArray 32)
    have hB2 := hB1.alloc hB1.size (.cells (wvs zeros8).toArray 32)
    have hIle : w.heap.size ≤ Ib := by omega
    refine list_skip (w' := (w1.alloc (.cells (wvs zeros8).toArray 32)).setRow Ib (wvs ivL).toArray) rfl rfl (ex_storerow rfl f24_12.eval f24_45.eval hI2 (ir8 _ rfl) rfl (wvs_one _)) ?_
    have hA3 := arr_row (cs := (wvs ivL).toArray) hA2 (show _ ≠ Ib by omega)
    have hR3 := arr_row (cs := (wvs ivL).toArray) hR2 (show _ ≠ Ib by omega)
    have hM3 := arr_row (cs := (wvs ivL).toArray) hM2 (show _ ≠ Ib by omega)
    have hI3 := setRow_heap _ Ib _ (wvs ivL).toArray _ _ hI2
    have hB3 := below_setRow hB2 hIle (wvs ivL).toArray
    generalize (w1.alloc (.cells (wvs zeros8).toArray 32)).setRow Ib (wvs ivL).toArray = w3 at hA3 hR3 hM3 hI3 hB3 ⊢
    refine wpList_nil ?_
    show Code.wp _ _ _ a24 w3
    have hI3 : Arr 32 w3 (Ib) (ivL) := hI3
    refine wp_seq ?_
    refine wp_region_lit ?_
    obtain ⟨V, hV⟩ : ∃ x, w3.heap.size = x := ⟨_, rfl⟩
    have hlV := hI3.lt
    rw [hV] at hlV
    refine list_any rfl (ex_alloc16 rfl w3) ?_
    rw [hV]
    show wpList _ _ _ _ (a24.put (some 13) (.pointer (some ⟨V, 0, none⟩))) _
    have f25_2 := f24_2.ne (n := 13) (by decide) (.pointer (some ⟨V, 0, none⟩))
    have f25_3 := f24_3.ne (n := 13) (by decide) (.pointer (some ⟨V, 0, none⟩))
    have f25_4 := f24_4.ne (n := 13) (by decide) (.pointer (some ⟨V, 0, none⟩))
    have f25_8 := f24_8.ne (n := 13) (by decide) (.pointer (some ⟨V, 0, none⟩))
    have f25_10 := f24_10.ne (n := 13) (by decide) (.pointer (some ⟨V, 0, none⟩))
    have f25_12 := f24_12.ne (n := 13) (by decide) (.pointer (some ⟨V, 0, none⟩))
    have f25_13 := At.put (a := a24) (n := 13) (by rw [S24.1, hsN]; decide) (.pointer (some ⟨V, 0, none⟩))
    have S25 := S24.put (n := 13) (by decide) (by decide) (.pointer (some ⟨V, 0, none⟩))
    generalize a24.put (some 13) (.pointer (some ⟨V, 0, none⟩)) = a25 at S25 f25_2 f25_3 f25_4 f25_8 f25_10 f25_12 f25_13 ⊢
    have hV4 := arr_new w3 zeros16 48
    rw [hV] at hV4
    have hA4 := arr_old hA3 (.cells (wvs zeros16).toArray 48)
    have hR4 := arr_old hR3 (.cells (wvs zeros16).toArray 48)
    have hM4 := arr_old hM3 (.cells (wvs zeros16).toArray 48)
    have hI4 := arr_old hI3 (.cells (wvs zeros16).toArray 48)
    have hB4 := hB3.alloc hB3.size (.cells (wvs zeros16).toArray 48)
    have hVle : w.heap.size ≤ V := by omega
    generalize w3.alloc (.cells (wvs zeros16).toArray 48) = w4 at hA4 hR4 hM4 hI4 hV4 hB4 ⊢
    refine wpList_nil ?_
    show Code.wp _ _ _ a25 w4
    obtain ⟨m, hm⟩ : ∃ m, wordsL block.data.toList = m := ⟨_, rfl⟩
    rw [hm] at hM4
    have hml : m.length = 16 := by rw [← hm]; simp [wordsL]
    have hJ0 : RJ w h m count last G Ib V h zeros16 a25 w4 := ⟨by rw [S25.1, hsN], by rw [S25.2.1, hdf], f25_2, f25_3, f25_4, f25_8, f25_10, f25_12, f25_13, hA4, hR4, hM4, hI4, hV4, hB4⟩
    generalize a25 = a at hJ0 ⊢
    generalize w4 = wr at hJ0 ⊢
    refine wp_seq_then (fun a wr => RJ w h m count last G Ib V h (start0 h) a wr) ?_ ?_
    · obtain ⟨hsN, hdf, y2, y3, y4, y8, y10, y12, y13, hA, hR, hM, hI, hV, hB⟩ := hJ0
      have S0 := Same.refl a 0 1000
      refine wp_seq ?_
      refine wp_region_lit ?_
      refine list_val (v := (.int .i64 ((0 : Nat) : Int))) rfl (ex_assign (v := (.int .i64 ((0 : Nat) : Int))) rfl rfl _) ?_
      show wpList _ _ _ _ (a.put (some 14) (.int .i64 ((0 : Nat) : Int))) _
      have f101_2 := y2.ne (n := 14) (by decide) (.int .i64 ((0 : Nat) : Int))
      have f101_3 := y3.ne (n := 14) (by decide) (.int .i64 ((0 : Nat) : Int))
      have f101_4 := y4.ne (n := 14) (by decide) (.int .i64 ((0 : Nat) : Int))
      have f101_8 := y8.ne (n := 14) (by decide) (.int .i64 ((0 : Nat) : Int))
      have f101_10 := y10.ne (n := 14) (by decide) (.int .i64 ((0 : Nat) : Int))
      have f101_12 := y12.ne (n := 14) (by decide) (.int .i64 ((0 : Nat) : Int))
      have f101_13 := y13.ne (n := 14) (by decide) (.int .i64 ((0 : Nat) : Int))
      have f101_14 := At.put (a := a) (n := 14) (by rw [S0.1, hsN]; decide) (.int .i64 ((0 : Nat) : Int))
      have S101 := S0.put (n := 14) (by decide) (by decide) (.int .i64 ((0 : Nat) : Int))
      generalize a.put (some 14) (.int .i64 ((0 : Nat) : Int)) = a101 at S101 f101_2 f101_3 f101_4 f101_8 f101_10 f101_12 f101_13 f101_14 ⊢
      refine wpList_nil ?_
      refine wp_block ?_
      refine wp_loop (RI2 w h m count last G Ib V) (MUR 14 8) ⟨0, zeros16, by omega, f101_14, rfl, fun j hj => by omega, fun j hj => by omega, ⟨by rw [S101.1, hsN], by rw [S101.2.1, hdf], f101_2, f101_3, f101_4, f101_8, f101_10, f101_12, f101_13, hA, hR, hM, hI, hV, hB⟩⟩ (fun a wr hX => ?_)
      obtain ⟨k, v, hk, y14, hvl, hv1, hv2, ⟨hsN, hdf, y2, y3, y4, y8, y10, y12, y13, hA, hR, hM, hI, hV, hB⟩⟩ := hX
      have hmu : MUR 14 8 a wr = 8 - k := by unfold MUR; rw [y14.eval]; simp [intOf]
      rw [hmu]
      clear hmu
      have S0 := Same.refl a 0 1000
      refine wp_seq ?_
      refine wp_seq ?_
      refine wp_region_lit ?_
      refine list_val (v := (.int .i64 (k : Int))) rfl (ex_move rfl y14.eval _) ?_
      show wpList _ _ _ _ (a.put (some 46) (.int .i64 (k : Int))) _
      have f201_2 := y2.ne (n := 46) (by decide) (.int .i64 (k : Int))
      have f201_3 := y3.ne (n := 46) (by decide) (.int .i64 (k : Int))
      have f201_4 := y4.ne (n := 46) (by decide) (.int .i64 (k : Int))
      have f201_8 := y8.ne (n := 46) (by decide) (.int .i64 (k : Int))
      have f201_10 := y10.ne (n := 46) (by decide) (.int .i64 (k : Int))
      have f201_12 := y12.ne (n := 46) (by decide) (.int .i64 (k : Int))
      have f201_13 := y13.ne (n := 46) (by decide) (.int .i64 (k : Int))
      have f201_14 := y14.ne (n := 46) (by decide) (.int .i64 (k : Int))
      have f201_46 := At.put (a := a) (n := 46) (by rw [S0.1, hsN]; decide) (.int .i64 (k : Int))
      have S201 := S0.put (n := 46) (by decide) (by decide) (.int .i64 (k : Int))
      generalize a.put (some 46) (.int .i64 (k : Int)) = a201 at S201 f201_2 f201_3 f201_4 f201_8 f201_10 f201_12 f201_13 f201_14 f201_46 ⊢
      refine list_val (v := (.bool (decide (k < 8)))) rfl (ex_less rfl f201_46 _) ?_
      show wpList _ _ _ _ (a201.put (some 47) (.bool (decide (k < 8)))) _
      have f202_2 := f201_2.ne (n := 47) (by decide) (.bool (decide (k < 8)))
      have f202_3 := f201_3.ne (n := 47) (by decide) (.bool (decide (k < 8)))
      have f202_4 := f201_4.ne (n := 47) (by decide) (.bool (decide (k < 8)))
      have f202_8 := f201_8.ne (n := 47) (by decide) (.bool (decide (k < 8)))
      have f202_10 := f201_10.ne (n := 47) (by decide) (.bool (decide (k < 8)))
      have f202_12 := f201_12.ne (n := 47) (by decide) (.bool (decide (k < 8)))
      have f202_13 := f201_13.ne (n := 47) (by decide) (.bool (decide (k < 8)))
      have f202_14 := f201_14.ne (n := 47) (by decide) (.bool (decide (k < 8)))
      have f202_47 := At.put (a := a201) (n := 47) (by rw [S201.1, hsN]; decide) (.bool (decide (k < 8)))
      have S202 := S201.put (n := 47) (by decide) (by decide) (.bool (decide (k < 8)))
      generalize a201.put (some 47) (.bool (decide (k < 8))) = a202 at S202 f202_2 f202_3 f202_4 f202_8 f202_10 f202_12 f202_13 f202_14 f202_47 ⊢
      refine wpList_nil ?_
      show Code.wp _ _ _ a202 wr
      by_cases hlt : k < 8
      · rw [decide_eq_true hlt] at f202_47
        refine wp_cond_true f202_47.eval ?_
        refine wp_skip ?_
        show Code.wp _ _ _ a202 wr
        refine wp_seq ?_
        refine wp_block ?_
        refine wp_seq ?_
        have e1 := hA.cell k (by omega)
        have e2 := hV.cell k (by omega)
        have f2 := hV.froz k
        have e3 := hI.cell k (by simp [ivL]; omega)
        refine wp_region_lit ?_
        refine list_val (v := (.int .i64 (k : Int))) rfl (ex_move rfl f202_14.eval _) ?_
        show wpList _ _ _ _ (a202.put (some 50) (.int .i64 (k : Int))) _
        have f203_2 := f202_2.ne (n := 50) (by decide) (.int .i64 (k : Int))
        have f203_3 := f202_3.ne (n := 50) (by decide) (.int .i64 (k : Int))
        have f203_4 := f202_4.ne (n := 50) (by decide) (.int .i64 (k : Int))
        have f203_8 := f202_8.ne (n := 50) (by decide) (.int .i64 (k : Int))
        have f203_10 := f202_10.ne (n := 50) (by decide) (.int .i64 (k : Int))
        have f203_12 := f202_12.ne (n := 50) (by decide) (.int .i64 (k : Int))
        have f203_13 := f202_13.ne (n := 50) (by decide) (.int .i64 (k : Int))
        have f203_14 := f202_14.ne (n := 50) (by decide) (.int .i64 (k : Int))
        have f203_50 := At.put (a := a202) (n := 50) (by rw [S202.1, hsN]; decide) (.int .i64 (k : Int))
        have S203 := S202.put (n := 50) (by decide) (by decide) (.int .i64 (k : Int))
        generalize a202.put (some 50) (.int .i64 (k : Int)) = a203 at S203 f203_2 f203_3 f203_4 f203_8 f203_10 f203_12 f203_13 f203_14 f203_50 ⊢
        refine list_val (v := (.int .i64 (k : Int))) rfl (ex_move rfl f203_14.eval _) ?_
        show wpList _ _ _ _ (a203.put (some 51) (.int .i64 (k : Int))) _
        have f204_2 := f203_2.ne (n := 51) (by decide) (.int .i64 (k : Int))
        have f204_3 := f203_3.ne (n := 51) (by decide) (.int .i64 (k : Int))
        have f204_4 := f203_4.ne (n := 51) (by decide) (.int .i64 (k : Int))
        have f204_8 := f203_8.ne (n := 51) (by decide) (.int .i64 (k : Int))
        have f204_10 := f203_10.ne (n := 51) (by decide) (.int .i64 (k : Int))
        have f204_12 := f203_12.ne (n := 51) (by decide) (.int .i64 (k : Int))
        have f204_13 := f203_13.ne (n := 51) (by decide) (.int .i64 (k : Int))
        have f204_14 := f203_14.ne (n := 51) (by decide) (.int .i64 (k : Int))
        have f204_50 := f203_50.ne (n := 51) (by decide) (.int .i64 (k : Int))
        have f204_51 := At.put (a := a203) (n := 51) (by rw [S203.1, hsN]; decide) (.int .i64 (k : Int))
        have S204 := S203.put (n := 51) (by decide) (by decide) (.int .i64 (k : Int))
        generalize a203.put (some 51) (.int .i64 (k : Int)) = a204 at S204 f204_2 f204_3 f204_4 f204_8 f204_10 f204_12 f204_13 f204_14 f204_50 f204_51 ⊢
        refine list_val (v := (.pointer (some ⟨G, k, none⟩))) rfl (ex_idx8 rfl f204_4.eval f204_51.eval hlt _) ?_
        show wpList _ _ _ _ (a204.put (some 52) (.pointer (some ⟨G, k, none⟩))) _
        have f205_2 := f204_2.ne (n := 52) (by decide) (.pointer (some ⟨G, k, none⟩))
        have f205_3 := f204_3.ne (n := 52) (by decide) (.pointer (some ⟨G, k, none⟩))
        have f205_4 := f204_4.ne (n := 52) (by decide) (.pointer (some ⟨G, k, none⟩))
        have f205_8 := f204_8.ne (n := 52) (by decide) (.pointer (some ⟨G, k, none⟩))
        have f205_10 := f204_10.ne (n := 52) (by decide) (.pointer (some ⟨G, k, none⟩))
        have f205_12 := f204_12.ne (n := 52) (by decide) (.pointer (some ⟨G, k, none⟩))
        have f205_13 := f204_13.ne (n := 52) (by decide) (.pointer (some ⟨G, k, none⟩))
        have f205_14 := f204_14.ne (n := 52) (by decide) (.pointer (some ⟨G, k, none⟩))
        have f205_50 := f204_50.ne (n := 52) (by decide) (.pointer (some ⟨G, k, none⟩))
        have f205_52 := At.put (a := a204) (n := 52) (by rw [S204.1, hsN]; decide) (.pointer (some ⟨G, k, none⟩))
        have S205 := S204.put (n := 52) (by decide) (by decide) (.pointer (some ⟨G, k, none⟩))
        generalize a204.put (some 52) (.pointer (some ⟨G, k, none⟩)) = a205 at S205 f205_2 f205_3 f205_4 f205_8 f205_10 f205_12 f205_13 f205_14 f205_50 f205_52 ⊢
        refine list_val (v := (wv (g h k))) rfl (ex_load32 rfl f205_52.eval e1) ?_
        show wpList _ _ _ _ (a205.put (some 53) (wv (g h k))) _
        have f206_2 := f205_2.ne (n := 53) (by decide) (wv (g h k))
        have f206_3 := f205_3.ne (n := 53) (by decide) (wv (g h k))
        have f206_4 := f205_4.ne (n := 53) (by decide) (wv (g h k))
        have f206_8 := f205_8.ne (n := 53) (by decide) (wv (g h k))
        have f206_10 := f205_10.ne (n := 53) (by decide) (wv (g h k))
        have f206_12 := f205_12.ne (n := 53) (by decide) (wv (g h k))
        have f206_13 := f205_13.ne (n := 53) (by decide) (wv (g h k))
        have f206_14 := f205_14.ne (n := 53) (by decide) (wv (g h k))
        have f206_50 := f205_50.ne (n := 53) (by decide) (wv (g h k))
        have f206_53 := At.put (a := a205) (n := 53) (by rw [S205.1, hsN]; decide) (wv (g h k))
        have S206 := S205.put (n := 53) (by decide) (by decide) (wv (g h k))
        generalize a205.put (some 53) (wv (g h k)) = a206 at S206 f206_2 f206_3 f206_4 f206_8 f206_10 f206_12 f206_13 f206_14 f206_50 f206_53 ⊢
        refine list_val (v := (.pointer (some ⟨V, k, none⟩))) rfl (ex_idx16 rfl f206_13.eval f206_50.eval (by omega) _) ?_
        show wpList _ _ _ _ (a206.put (some 54) (.pointer (some ⟨V, k, none⟩))) _
        have f207_2 := f206_2.ne (n := 54) (by decide) (.pointer (some ⟨V, k, none⟩))
        have f207_3 := f206_3.ne (n := 54) (by decide) (.pointer (some ⟨V, k, none⟩))
        have f207_4 := f206_4.ne (n := 54) (by decide) (.pointer (some ⟨V, k, none⟩))
        have f207_8 := f206_8.ne (n := 54) (by decide) (.pointer (some ⟨V, k, none⟩))
        have f207_10 := f206_10.ne (n := 54) (by decide) (.pointer (some ⟨V, k, none⟩))
        have f207_12 := f206_12.ne (n := 54) (by decide) (.pointer (some ⟨V, k, none⟩))
        have f207_13 := f206_13.ne (n := 54) (by decide) (.pointer (some ⟨V, k, none⟩))
        have f207_14 := f206_14.ne (n := 54) (by decide) (.pointer (some ⟨V, k, none⟩))
        have f207_53 := f206_53.ne (n := 54) (by decide) (.pointer (some ⟨V, k, none⟩))
        have f207_54 := At.put (a := a206) (n := 54) (by rw [S206.1, hsN]; decide) (.pointer (some ⟨V, k, none⟩))
        have S207 := S206.put (n := 54) (by decide) (by decide) (.pointer (some ⟨V, k, none⟩))
        generalize a206.put (some 54) (.pointer (some ⟨V, k, none⟩)) = a207 at S207 f207_2 f207_3 f207_4 f207_8 f207_10 f207_12 f207_13 f207_14 f207_53 f207_54 ⊢
        refine list_skip rfl rfl (ex_store32 rfl f207_54.eval f207_53.eval e2 f2) ?_
        have hAa := hA.far (by omega : G ≠ V) (i := k) (wv (g h k))
        have hRa := hR.far (by omega : G + 1 ≠ V) (i := k) (wv (g h k))
        have hMa := hM.far (by omega : G + 1 + 1 ≠ V) (i := k) (wv (g h k))
        have hIa := hI.far (by omega : Ib ≠ V) (i := k) (wv (g h k))
        have hBa := hB.setCell (p := ⟨V, k, none⟩) (by omega) (wv (g h k))
        have hVa := hV.set k (g h k)
        have hBa : Below w.heap.size w (wr.setCell ⟨V, k, none⟩ (wv (g h k))) := hBa
        refine wpList_nil ?_
        show Code.wp _ _ _ a207 (wr.setCell ⟨V, k, none⟩ (wv (g h k)))
        have e4 := hVa.cell (k + 8) (by simp [hvl]; omega)
        have f4 := hVa.froz (k + 8)
        have e5 := hIa.cell k (by simp [ivL]; omega)
        refine wp_region_lit ?_
        refine list_val (v := (.int .i64 (k : Int))) rfl (ex_move rfl f207_14.eval _) ?_
        show wpList _ _ _ _ (a207.put (some 55) (.int .i64 (k : Int))) _
        have f208_2 := f207_2.ne (n := 55) (by decide) (.int .i64 (k : Int))
        have f208_3 := f207_3.ne (n := 55) (by decide) (.int .i64 (k : Int))
        have f208_4 := f207_4.ne (n := 55) (by decide) (.int .i64 (k : Int))
        have f208_8 := f207_8.ne (n := 55) (by decide) (.int .i64 (k : Int))
        have f208_10 := f207_10.ne (n := 55) (by decide) (.int .i64 (k : Int))
        have f208_12 := f207_12.ne (n := 55) (by decide) (.int .i64 (k : Int))
        have f208_13 := f207_13.ne (n := 55) (by decide) (.int .i64 (k : Int))
        have f208_14 := f207_14.ne (n := 55) (by decide) (.int .i64 (k : Int))
        have f208_55 := At.put (a := a207) (n := 55) (by rw [S207.1, hsN]; decide) (.int .i64 (k : Int))
        have S208 := S207.put (n := 55) (by decide) (by decide) (.int .i64 (k : Int))
        generalize a207.put (some 55) (.int .i64 (k : Int)) = a208 at S208 f208_2 f208_3 f208_4 f208_8 f208_10 f208_12 f208_13 f208_14 f208_55 ⊢
        refine list_val (v := (.int .i64 ((k + 8 : Nat) : Int))) rfl (ex_add (c := 8) rfl f208_55 (by omega) (by omega) _) ?_
        show wpList _ _ _ _ (a208.put (some 56) (.int .i64 ((k + 8 : Nat) : Int))) _
        have f209_2 := f208_2.ne (n := 56) (by decide) (.int .i64 ((k + 8 : Nat) : Int))
        have f209_3 := f208_3.ne (n := 56) (by decide) (.int .i64 ((k + 8 : Nat) : Int))
        have f209_4 := f208_4.ne (n := 56) (by decide) (.int .i64 ((k + 8 : Nat) : Int))
        have f209_8 := f208_8.ne (n := 56) (by decide) (.int .i64 ((k + 8 : Nat) : Int))
        have f209_10 := f208_10.ne (n := 56) (by decide) (.int .i64 ((k + 8 : Nat) : Int))
        have f209_12 := f208_12.ne (n := 56) (by decide) (.int .i64 ((k + 8 : Nat) : Int))
        have f209_13 := f208_13.ne (n := 56) (by decide) (.int .i64 ((k + 8 : Nat) : Int))
        have f209_14 := f208_14.ne (n := 56) (by decide) (.int .i64 ((k + 8 : Nat) : Int))
        have f209_56 := At.put (a := a208) (n := 56) (by rw [S208.1, hsN]; decide) (.int .i64 ((k + 8 : Nat) : Int))
        have S209 := S208.put (n := 56) (by decide) (by decide) (.int .i64 ((k + 8 : Nat) : Int))
        generalize a208.put (some 56) (.int .i64 ((k + 8 : Nat) : Int)) = a209 at S209 f209_2 f209_3 f209_4 f209_8 f209_10 f209_12 f209_13 f209_14 f209_56 ⊢
        refine list_val (v := (.int .i64 (k : Int))) rfl (ex_move rfl f209_14.eval _) ?_
        show wpList _ _ _ _ (a209.put (some 57) (.int .i64 (k : Int))) _
        have f210_2 := f209_2.ne (n := 57) (by decide) (.int .i64 (k : Int))
        have f210_3 := f209_3.ne (n := 57) (by decide) (.int .i64 (k : Int))
        have f210_4 := f209_4.ne (n := 57) (by decide) (.int .i64 (k : Int))
        have f210_8 := f209_8.ne (n := 57) (by decide) (.int .i64 (k : Int))
        have f210_10 := f209_10.ne (n := 57) (by decide) (.int .i64 (k : Int))
        have f210_12 := f209_12.ne (n := 57) (by decide) (.int .i64 (k : Int))
        have f210_13 := f209_13.ne (n := 57) (by decide) (.int .i64 (k : Int))
        have f210_14 := f209_14.ne (n := 57) (by decide) (.int .i64 (k : Int))
        have f210_56 := f209_56.ne (n := 57) (by decide) (.int .i64 (k : Int))
        have f210_57 := At.put (a := a209) (n := 57) (by rw [S209.1, hsN]; decide) (.int .i64 (k : Int))
        have S210 := S209.put (n := 57) (by decide) (by decide) (.int .i64 (k : Int))
        generalize a209.put (some 57) (.int .i64 (k : Int)) = a210 at S210 f210_2 f210_3 f210_4 f210_8 f210_10 f210_12 f210_13 f210_14 f210_56 f210_57 ⊢
        refine list_val (v := (.pointer (some ⟨Ib, k, none⟩))) rfl (ex_idx8 rfl f210_12.eval f210_57.eval hlt _) ?_
        show wpList _ _ _ _ (a210.put (some 58) (.pointer (some ⟨Ib, k, none⟩))) _
        have f211_2 := f210_2.ne (n := 58) (by decide) (.pointer (some ⟨Ib, k, none⟩))
        have f211_3 := f210_3.ne (n := 58) (by decide) (.pointer (some ⟨Ib, k, none⟩))
        have f211_4 := f210_4.ne (n := 58) (by decide) (.pointer (some ⟨Ib, k, none⟩))
        have f211_8 := f210_8.ne (n := 58) (by decide) (.pointer (some ⟨Ib, k, none⟩))
        have f211_10 := f210_10.ne (n := 58) (by decide) (.pointer (some ⟨Ib, k, none⟩))
        have f211_12 := f210_12.ne (n := 58) (by decide) (.pointer (some ⟨Ib, k, none⟩))
        have f211_13 := f210_13.ne (n := 58) (by decide) (.pointer (some ⟨Ib, k, none⟩))
        have f211_14 := f210_14.ne (n := 58) (by decide) (.pointer (some ⟨Ib, k, none⟩))
        have f211_56 := f210_56.ne (n := 58) (by decide) (.pointer (some ⟨Ib, k, none⟩))
        have f211_58 := At.put (a := a210) (n := 58) (by rw [S210.1, hsN]; decide) (.pointer (some ⟨Ib, k, none⟩))
        have S211 := S210.put (n := 58) (by decide) (by decide) (.pointer (some ⟨Ib, k, none⟩))
        generalize a210.put (some 58) (.pointer (some ⟨Ib, k, none⟩)) = a211 at S211 f211_2 f211_3 f211_4 f211_8 f211_10 f211_12 f211_13 f211_14 f211_56 f211_58 ⊢
        refine list_val (v := (wv (g ivL k))) rfl (ex_load32 rfl f211_58.eval e5) ?_
        show wpList _ _ _ _ (a211.put (some 59) (wv (g ivL k))) _
        have f212_2 := f211_2.ne (n := 59) (by decide) (wv (g ivL k))
        have f212_3 := f211_3.ne (n := 59) (by decide) (wv (g ivL k))
        have f212_4 := f211_4.ne (n := 59) (by decide) (wv (g ivL k))
        have f212_8 := f211_8.ne (n := 59) (by decide) (wv (g ivL k))
        have f212_10 := f211_10.ne (n := 59) (by decide) (wv (g ivL k))
        have f212_12 := f211_12.ne (n := 59) (by decide) (wv (g ivL k))
        have f212_13 := f211_13.ne (n := 59) (by decide) (wv (g ivL k))
        have f212_14 := f211_14.ne (n := 59) (by decide) (wv (g ivL k))
        have f212_56 := f211_56.ne (n := 59) (by decide) (wv (g ivL k))
        have f212_59 := At.put (a := a211) (n := 59) (by rw [S211.1, hsN]; decide) (wv (g ivL k))
        have S212 := S211.put (n := 59) (by decide) (by decide) (wv (g ivL k))
        generalize a211.put (some 59) (wv (g ivL k)) = a212 at S212 f212_2 f212_3 f212_4 f212_8 f212_10 f212_12 f212_13 f212_14 f212_56 f212_59 ⊢
        refine list_val (v := (.pointer (some ⟨V, (k + 8), none⟩))) rfl (ex_idx16 rfl f212_13.eval f212_56.eval (by omega) _) ?_
        show wpList _ _ _ _ (a212.put (some 60) (.pointer (some ⟨V, (k + 8), none⟩))) _
        have f213_2 := f212_2.ne (n := 60) (by decide) (.pointer (some ⟨V, (k + 8), none⟩))
        have f213_3 := f212_3.ne (n := 60) (by decide) (.pointer (some ⟨V, (k + 8), none⟩))
        have f213_4 := f212_4.ne (n := 60) (by decide) (.pointer (some ⟨V, (k + 8), none⟩))
        have f213_8 := f212_8.ne (n := 60) (by decide) (.pointer (some ⟨V, (k + 8), none⟩))
        have f213_10 := f212_10.ne (n := 60) (by decide) (.pointer (some ⟨V, (k + 8), none⟩))
        have f213_12 := f212_12.ne (n := 60) (by decide) (.pointer (some ⟨V, (k + 8), none⟩))
        have f213_13 := f212_13.ne (n := 60) (by decide) (.pointer (some ⟨V, (k + 8), none⟩))
        have f213_14 := f212_14.ne (n := 60) (by decide) (.pointer (some ⟨V, (k + 8), none⟩))
        have f213_59 := f212_59.ne (n := 60) (by decide) (.pointer (some ⟨V, (k + 8), none⟩))
        have f213_60 := At.put (a := a212) (n := 60) (by rw [S212.1, hsN]; decide) (.pointer (some ⟨V, (k + 8), none⟩))
        have S213 := S212.put (n := 60) (by decide) (by decide) (.pointer (some ⟨V, (k + 8), none⟩))
        generalize a212.put (some 60) (.pointer (some ⟨V, (k + 8), none⟩)) = a213 at S213 f213_2 f213_3 f213_4 f213_8 f213_10 f213_12 f213_13 f213_14 f213_59 f213_60 ⊢
        refine list_skip rfl rfl (ex_store32 rfl f213_60.eval f213_59.eval e4 f4) ?_
        have hAb := hAa.far (by omega : G ≠ V) (i := (k + 8)) (wv (g ivL k))
        have hRb := hRa.far (by omega : G + 1 ≠ V) (i := (k + 8)) (wv (g ivL k))
        have hMb := hMa.far (by omega : G + 1 + 1 ≠ V) (i := (k + 8)) (wv (g ivL k))
        have hIb := hIa.far (by omega : Ib ≠ V) (i := (k + 8)) (wv (g ivL k))
        have hBb := hBa.setCell (p := ⟨V, (k + 8), none⟩) (by omega) (wv (g ivL k))
        have hVb := hVa.set (k + 8) (g ivL k)
        refine wpList_nil ?_
        show Code.wp _ _ _ a213 ((wr.setCell ⟨V, k, none⟩ (wv (g h k))).setCell ⟨V, k + 8, none⟩ (wv (g ivL k)))
        refine wp_region_lit ?_
        refine list_val (v := (.int .i64 (k : Int))) rfl (ex_move rfl f213_14.eval _) ?_
        show wpList _ _ _ _ (a213.put (some 48) (.int .i64 (k : Int))) _
        have f214_2 := f213_2.ne (n := 48) (by decide) (.int .i64 (k : Int))
        have f214_3 := f213_3.ne (n := 48) (by decide) (.int .i64 (k : Int))
        have f214_4 := f213_4.ne (n := 48) (by decide) (.int .i64 (k : Int))
        have f214_8 := f213_8.ne (n := 48) (by decide) (.int .i64 (k : Int))
        have f214_10 := f213_10.ne (n := 48) (by decide) (.int .i64 (k : Int))
        have f214_12 := f213_12.ne (n := 48) (by decide) (.int .i64 (k : Int))
        have f214_13 := f213_13.ne (n := 48) (by decide) (.int .i64 (k : Int))
        have f214_14 := f213_14.ne (n := 48) (by decide) (.int .i64 (k : Int))
        have f214_48 := At.put (a := a213) (n := 48) (by rw [S213.1, hsN]; decide) (.int .i64 (k : Int))
        have S214 := S213.put (n := 48) (by decide) (by decide) (.int .i64 (k : Int))
        generalize a213.put (some 48) (.int .i64 (k : Int)) = a214 at S214 f214_2 f214_3 f214_4 f214_8 f214_10 f214_12 f214_13 f214_14 f214_48 ⊢
        refine list_val (v := (.int .i64 ((k + 1 : Nat) : Int))) rfl (ex_next rfl f214_48 (by omega) _) ?_
        show wpList _ _ _ _ (a214.put (some 49) (.int .i64 ((k + 1 : Nat) : Int))) _
        have f215_2 := f214_2.ne (n := 49) (by decide) (.int .i64 ((k + 1 : Nat) : Int))
        have f215_3 := f214_3.ne (n := 49) (by decide) (.int .i64 ((k + 1 : Nat) : Int))
        have f215_4 := f214_4.ne (n := 49) (by decide) (.int .i64 ((k + 1 : Nat) : Int))
        have f215_8 := f214_8.ne (n := 49) (by decide) (.int .i64 ((k + 1 : Nat) : Int))
        have f215_10 := f214_10.ne (n := 49) (by decide) (.int .i64 ((k + 1 : Nat) : Int))
        have f215_12 := f214_12.ne (n := 49) (by decide) (.int .i64 ((k + 1 : Nat) : Int))
        have f215_13 := f214_13.ne (n := 49) (by decide) (.int .i64 ((k + 1 : Nat) : Int))
        have f215_14 := f214_14.ne (n := 49) (by decide) (.int .i64 ((k + 1 : Nat) : Int))
        have f215_49 := At.put (a := a214) (n := 49) (by rw [S214.1, hsN]; decide) (.int .i64 ((k + 1 : Nat) : Int))
        have S215 := S214.put (n := 49) (by decide) (by decide) (.int .i64 ((k + 1 : Nat) : Int))
        generalize a214.put (some 49) (.int .i64 ((k + 1 : Nat) : Int)) = a215 at S215 f215_2 f215_3 f215_4 f215_8 f215_10 f215_12 f215_13 f215_14 f215_49 ⊢
        refine list_val (v := (.int .i64 ((k + 1 : Nat) : Int))) rfl (ex_assign rfl f215_49.eval _) ?_
        show wpList _ _ _ _ (a215.put (some 14) (.int .i64 ((k + 1 : Nat) : Int))) _
        have f216_2 := f215_2.ne (n := 14) (by decide) (.int .i64 ((k + 1 : Nat) : Int))
        have f216_3 := f215_3.ne (n := 14) (by decide) (.int .i64 ((k + 1 : Nat) : Int))
        have f216_4 := f215_4.ne (n := 14) (by decide) (.int .i64 ((k + 1 : Nat) : Int))
        have f216_8 := f215_8.ne (n := 14) (by decide) (.int .i64 ((k + 1 : Nat) : Int))
        have f216_10 := f215_10.ne (n := 14) (by decide) (.int .i64 ((k + 1 : Nat) : Int))
        have f216_12 := f215_12.ne (n := 14) (by decide) (.int .i64 ((k + 1 : Nat) : Int))
        have f216_13 := f215_13.ne (n := 14) (by decide) (.int .i64 ((k + 1 : Nat) : Int))
        have f216_14 := At.put (a := a215) (n := 14) (by rw [S215.1, hsN]; decide) (.int .i64 ((k + 1 : Nat) : Int))
        have S216 := S215.put (n := 14) (by decide) (by decide) (.int .i64 ((k + 1 : Nat) : Int))
        generalize a215.put (some 14) (.int .i64 ((k + 1 : Nat) : Int)) = a216 at S216 f216_2 f216_3 f216_4 f216_8 f216_10 f216_12 f216_13 f216_14 ⊢
        refine wpList_nil ?_
        refine (⟨⟨k + 1, (v.set k (g h k)).set (k + 8) (g ivL k), by omega, f216_14, by simp [hvl], fun j hj => ?_, fun j hj => ?_, ⟨by rw [S216.1, hsN], by rw [S216.2.1, hdf], f216_2, f216_3, f216_4, f216_8, f216_10, f216_12, f216_13, hAb, hRb, hMb, hIb, hVb, hBb⟩⟩, ?_⟩ : RI2 w h m count last G Ib V a216 _ ∧ MUR 14 8 a216 _ < 8 - k)
        · rw [g_set _ _ _ _ (by simp; omega), if_neg (by omega), g_set _ _ _ _ (by omega)]
          by_cases hjk : k = j
          · subst hjk; rw [if_pos rfl]
          · rw [if_neg hjk, hv1 j (by omega)]
        · rw [g_set _ _ _ _ (by simp; omega)]
          by_cases hjk : k = j
          · subst hjk; rw [if_pos rfl]
          · rw [if_neg (by omega), g_set _ _ _ _ (by omega), if_neg (by omega), hv2 j (by omega)]
        · unfold MUR
          rw [f216_14.eval]
          simp only [intOf]
          omega
      · obtain rfl : k = 8 := by omega
        rw [decide_eq_false hlt] at f202_47
        refine wp_cond_false f202_47.eval ?_
        refine wp_exit ?_
        show RJ w h m count last G Ib V h (start0 h) a202 wr
        rw [start0_of hvl hh hv1 hv2] at hV
        exact ⟨by rw [S202.1, hsN], by rw [S202.2.1, hdf], f202_2, f202_3, f202_4, f202_8, f202_10, f202_12, f202_13, hA, hR, hM, hI, hV, hB⟩
    · clear hJ0
      rintro a wr ⟨hsN, hdf, y2, y3, y4, y8, y10, y12, y13, hA, hR, hM, hI, hV, hB⟩
      have S0 := Same.refl a 0 1000
      have hs0 := start0_len h
      refine wp_seq ?_
      refine wp_region_lit ?_
      have e1 := hV.cell 12 (by omega)
      have f1 := hV.froz 12
      refine list_val (v := (.pointer (some ⟨V, 12, none⟩))) rfl (ex_idx16 rfl y13.eval rfl (by decide : 12 < 16) _) ?_
      show wpList _ _ _ _ (a.put (some 61) (.pointer (some ⟨V, 12, none⟩))) _
      have f301_2 := y2.ne (n := 61) (by decide) (.pointer (some ⟨V, 12, none⟩))
      have f301_3 := y3.ne (n := 61) (by decide) (.pointer (some ⟨V, 12, none⟩))
      have f301_4 := y4.ne (n := 61) (by decide) (.pointer (some ⟨V, 12, none⟩))
      have f301_8 := y8.ne (n := 61) (by decide) (.pointer (some ⟨V, 12, none⟩))
      have f301_10 := y10.ne (n := 61) (by decide) (.pointer (some ⟨V, 12, none⟩))
      have f301_12 := y12.ne (n := 61) (by decide) (.pointer (some ⟨V, 12, none⟩))
      have f301_13 := y13.ne (n := 61) (by decide) (.pointer (some ⟨V, 12, none⟩))
      have f301_61 := At.put (a := a) (n := 61) (by rw [S0.1, hsN]; decide) (.pointer (some ⟨V, 12, none⟩))
      have S301 := S0.put (n := 61) (by decide) (by decide) (.pointer (some ⟨V, 12, none⟩))
      generalize a.put (some 61) (.pointer (some ⟨V, 12, none⟩)) = a301 at S301 f301_2 f301_3 f301_4 f301_8 f301_10 f301_12 f301_13 f301_61 ⊢
      refine list_val (v := (wv (g (start0 h) 12))) rfl (ex_load32 rfl f301_61.eval e1) ?_
      show wpList _ _ _ _ (a301.put (some 62) (wv (g (start0 h) 12))) _
      have f302_2 := f301_2.ne (n := 62) (by decide) (wv (g (start0 h) 12))
      have f302_3 := f301_3.ne (n := 62) (by decide) (wv (g (start0 h) 12))
      have f302_4 := f301_4.ne (n := 62) (by decide) (wv (g (start0 h) 12))
      have f302_8 := f301_8.ne (n := 62) (by decide) (wv (g (start0 h) 12))
      have f302_10 := f301_10.ne (n := 62) (by decide) (wv (g (start0 h) 12))
      have f302_12 := f301_12.ne (n := 62) (by decide) (wv (g (start0 h) 12))
      have f302_13 := f301_13.ne (n := 62) (by decide) (wv (g (start0 h) 12))
      have f302_62 := At.put (a := a301) (n := 62) (by rw [S301.1, hsN]; decide) (wv (g (start0 h) 12))
      have S302 := S301.put (n := 62) (by decide) (by decide) (wv (g (start0 h) 12))
      generalize a301.put (some 62) (wv (g (start0 h) 12)) = a302 at S302 f302_2 f302_3 f302_4 f302_8 f302_10 f302_12 f302_13 f302_62 ⊢
      refine list_val (v := (.int .u64 (count : Int))) rfl (ex_move rfl f302_2.eval _) ?_
      show wpList _ _ _ _ (a302.put (some 63) (.int .u64 (count : Int))) _
      have f303_2 := f302_2.ne (n := 63) (by decide) (.int .u64 (count : Int))
      have f303_3 := f302_3.ne (n := 63) (by decide) (.int .u64 (count : Int))
      have f303_4 := f302_4.ne (n := 63) (by decide) (.int .u64 (count : Int))
      have f303_8 := f302_8.ne (n := 63) (by decide) (.int .u64 (count : Int))
      have f303_10 := f302_10.ne (n := 63) (by decide) (.int .u64 (count : Int))
      have f303_12 := f302_12.ne (n := 63) (by decide) (.int .u64 (count : Int))
      have f303_13 := f302_13.ne (n := 63) (by decide) (.int .u64 (count : Int))
      have f303_62 := f302_62.ne (n := 63) (by decide) (.int .u64 (count : Int))
      have f303_63 := At.put (a := a302) (n := 63) (by rw [S302.1, hsN]; decide) (.int .u64 (count : Int))
      have S303 := S302.put (n := 63) (by decide) (by decide) (.int .u64 (count : Int))
      generalize a302.put (some 63) (.int .u64 (count : Int)) = a303 at S303 f303_2 f303_3 f303_4 f303_8 f303_10 f303_12 f303_13 f303_62 f303_63 ⊢
      refine list_val (v := (wv (BitVec.ofNat 32 count))) rfl (ex_cvt64 rfl f303_63 _) ?_
      show wpList _ _ _ _ (a303.put (some 64) (wv (BitVec.ofNat 32 count))) _
      have f304_2 := f303_2.ne (n := 64) (by decide) (wv (BitVec.ofNat 32 count))
      have f304_3 := f303_3.ne (n := 64) (by decide) (wv (BitVec.ofNat 32 count))
      have f304_4 := f303_4.ne (n := 64) (by decide) (wv (BitVec.ofNat 32 count))
      have f304_8 := f303_8.ne (n := 64) (by decide) (wv (BitVec.ofNat 32 count))
      have f304_10 := f303_10.ne (n := 64) (by decide) (wv (BitVec.ofNat 32 count))
      have f304_12 := f303_12.ne (n := 64) (by decide) (wv (BitVec.ofNat 32 count))
      have f304_13 := f303_13.ne (n := 64) (by decide) (wv (BitVec.ofNat 32 count))
      have f304_62 := f303_62.ne (n := 64) (by decide) (wv (BitVec.ofNat 32 count))
      have f304_64 := At.put (a := a303) (n := 64) (by rw [S303.1, hsN]; decide) (wv (BitVec.ofNat 32 count))
      have S304 := S303.put (n := 64) (by decide) (by decide) (wv (BitVec.ofNat 32 count))
      generalize a303.put (some 64) (wv (BitVec.ofNat 32 count)) = a304 at S304 f304_2 f304_3 f304_4 f304_8 f304_10 f304_12 f304_13 f304_62 f304_64 ⊢
      refine list_val (v := (wv (g (start0 h) 12 ^^^ BitVec.ofNat 32 count))) rfl (ex_xor rfl f304_62 f304_64 _) ?_
      show wpList _ _ _ _ (a304.put (some 65) (wv (g (start0 h) 12 ^^^ BitVec.ofNat 32 count))) _
      have f305_2 := f304_2.ne (n := 65) (by decide) (wv (g (start0 h) 12 ^^^ BitVec.ofNat 32 count))
      have f305_3 := f304_3.ne (n := 65) (by decide) (wv (g (start0 h) 12 ^^^ BitVec.ofNat 32 count))
      have f305_4 := f304_4.ne (n := 65) (by decide) (wv (g (start0 h) 12 ^^^ BitVec.ofNat 32 count))
      have f305_8 := f304_8.ne (n := 65) (by decide) (wv (g (start0 h) 12 ^^^ BitVec.ofNat 32 count))
      have f305_10 := f304_10.ne (n := 65) (by decide) (wv (g (start0 h) 12 ^^^ BitVec.ofNat 32 count))
      have f305_12 := f304_12.ne (n := 65) (by decide) (wv (g (start0 h) 12 ^^^ BitVec.ofNat 32 count))
      have f305_13 := f304_13.ne (n := 65) (by decide) (wv (g (start0 h) 12 ^^^ BitVec.ofNat 32 count))
      have f305_65 := At.put (a := a304) (n := 65) (by rw [S304.1, hsN]; decide) (wv (g (start0 h) 12 ^^^ BitVec.ofNat 32 count))
      have S305 := S304.put (n := 65) (by decide) (by decide) (wv (g (start0 h) 12 ^^^ BitVec.ofNat 32 count))
      generalize a304.put (some 65) (wv (g (start0 h) 12 ^^^ BitVec.ofNat 32 count)) = a305 at S305 f305_2 f305_3 f305_4 f305_8 f305_10 f305_12 f305_13 f305_65 ⊢
      refine list_val (v := (.pointer (some ⟨V, 12, none⟩))) rfl (ex_idx16 rfl f305_13.eval rfl (by decide : 12 < 16) _) ?_
      show wpList _ _ _ _ (a305.put (some 66) (.pointer (some ⟨V, 12, none⟩))) _
      have f306_2 := f305_2.ne (n := 66) (by decide) (.pointer (some ⟨V, 12, none⟩))
      have f306_3 := f305_3.ne (n := 66) (by decide) (.pointer (some ⟨V, 12, none⟩))
      have f306_4 := f305_4.ne (n := 66) (by decide) (.pointer (some ⟨V, 12, none⟩))
      have f306_8 := f305_8.ne (n := 66) (by decide) (.pointer (some ⟨V, 12, none⟩))
      have f306_10 := f305_10.ne (n := 66) (by decide) (.pointer (some ⟨V, 12, none⟩))
      have f306_12 := f305_12.ne (n := 66) (by decide) (.pointer (some ⟨V, 12, none⟩))
      have f306_13 := f305_13.ne (n := 66) (by decide) (.pointer (some ⟨V, 12, none⟩))
      have f306_65 := f305_65.ne (n := 66) (by decide) (.pointer (some ⟨V, 12, none⟩))
      have f306_66 := At.put (a := a305) (n := 66) (by rw [S305.1, hsN]; decide) (.pointer (some ⟨V, 12, none⟩))
      have S306 := S305.put (n := 66) (by decide) (by decide) (.pointer (some ⟨V, 12, none⟩))
      generalize a305.put (some 66) (.pointer (some ⟨V, 12, none⟩)) = a306 at S306 f306_2 f306_3 f306_4 f306_8 f306_10 f306_12 f306_13 f306_65 f306_66 ⊢
      refine list_skip rfl rfl (ex_store32 rfl f306_66.eval f306_65.eval e1 f1) ?_
      have hAa := hA.far (by omega : G ≠ V) (i := 12) (wv (g (start0 h) 12 ^^^ BitVec.ofNat 32 count))
      have hRa := hR.far (by omega : G + 1 ≠ V) (i := 12) (wv (g (start0 h) 12 ^^^ BitVec.ofNat 32 count))
      have hMa := hM.far (by omega : G + 1 + 1 ≠ V) (i := 12) (wv (g (start0 h) 12 ^^^ BitVec.ofNat 32 count))
      have hIa := hI.far (by omega : Ib ≠ V) (i := 12) (wv (g (start0 h) 12 ^^^ BitVec.ofNat 32 count))
      have hBa := hB.setCell (p := ⟨V, 12, none⟩) (by omega) (wv (g (start0 h) 12 ^^^ BitVec.ofNat 32 count))
      have hVa := hV.set 12 (g (start0 h) 12 ^^^ BitVec.ofNat 32 count)
      refine wpList_nil ?_
      show Code.wp _ _ _ a306 (wr.setCell ⟨V, 12, none⟩ (wv (g (start0 h) 12 ^^^ BitVec.ofNat 32 count)))
      have e2 := hVa.cell 13 (by simp [hs0])
      have f2 := hVa.froz 13
      rw [g_set _ _ _ _ (by omega), if_neg (by decide)] at e2
      refine wp_seq ?_
      refine wp_region_lit ?_
      refine list_val (v := (.pointer (some ⟨V, 13, none⟩))) rfl (ex_idx16 rfl f306_13.eval rfl (by decide : 13 < 16) _) ?_
      show wpList _ _ _ _ (a306.put (some 67) (.pointer (some ⟨V, 13, none⟩))) _
      have f307_2 := f306_2.ne (n := 67) (by decide) (.pointer (some ⟨V, 13, none⟩))
      have f307_3 := f306_3.ne (n := 67) (by decide) (.pointer (some ⟨V, 13, none⟩))
      have f307_4 := f306_4.ne (n := 67) (by decide) (.pointer (some ⟨V, 13, none⟩))
      have f307_8 := f306_8.ne (n := 67) (by decide) (.pointer (some ⟨V, 13, none⟩))
      have f307_10 := f306_10.ne (n := 67) (by decide) (.pointer (some ⟨V, 13, none⟩))
      have f307_12 := f306_12.ne (n := 67) (by decide) (.pointer (some ⟨V, 13, none⟩))
      have f307_13 := f306_13.ne (n := 67) (by decide) (.pointer (some ⟨V, 13, none⟩))
      have f307_67 := At.put (a := a306) (n := 67) (by rw [S306.1, hsN]; decide) (.pointer (some ⟨V, 13, none⟩))
      have S307 := S306.put (n := 67) (by decide) (by decide) (.pointer (some ⟨V, 13, none⟩))
      generalize a306.put (some 67) (.pointer (some ⟨V, 13, none⟩)) = a307 at S307 f307_2 f307_3 f307_4 f307_8 f307_10 f307_12 f307_13 f307_67 ⊢
      refine list_val (v := (wv (g (start0 h) 13))) rfl (ex_load32 rfl f307_67.eval e2) ?_
      show wpList _ _ _ _ (a307.put (some 68) (wv (g (start0 h) 13))) _
      have f308_2 := f307_2.ne (n := 68) (by decide) (wv (g (start0 h) 13))
      have f308_3 := f307_3.ne (n := 68) (by decide) (wv (g (start0 h) 13))
      have f308_4 := f307_4.ne (n := 68) (by decide) (wv (g (start0 h) 13))
      have f308_8 := f307_8.ne (n := 68) (by decide) (wv (g (start0 h) 13))
      have f308_10 := f307_10.ne (n := 68) (by decide) (wv (g (start0 h) 13))
      have f308_12 := f307_12.ne (n := 68) (by decide) (wv (g (start0 h) 13))
      have f308_13 := f307_13.ne (n := 68) (by decide) (wv (g (start0 h) 13))
      have f308_68 := At.put (a := a307) (n := 68) (by rw [S307.1, hsN]; decide) (wv (g (start0 h) 13))
      have S308 := S307.put (n := 68) (by decide) (by decide) (wv (g (start0 h) 13))
      generalize a307.put (some 68) (wv (g (start0 h) 13)) = a308 at S308 f308_2 f308_3 f308_4 f308_8 f308_10 f308_12 f308_13 f308_68 ⊢
      refine list_val (v := (.int .u64 (count : Int))) rfl (ex_move rfl f308_2.eval _) ?_
      show wpList _ _ _ _ (a308.put (some 69) (.int .u64 (count : Int))) _
      have f309_2 := f308_2.ne (n := 69) (by decide) (.int .u64 (count : Int))
      have f309_3 := f308_3.ne (n := 69) (by decide) (.int .u64 (count : Int))
      have f309_4 := f308_4.ne (n := 69) (by decide) (.int .u64 (count : Int))
      have f309_8 := f308_8.ne (n := 69) (by decide) (.int .u64 (count : Int))
      have f309_10 := f308_10.ne (n := 69) (by decide) (.int .u64 (count : Int))
      have f309_12 := f308_12.ne (n := 69) (by decide) (.int .u64 (count : Int))
      have f309_13 := f308_13.ne (n := 69) (by decide) (.int .u64 (count : Int))
      have f309_68 := f308_68.ne (n := 69) (by decide) (.int .u64 (count : Int))
      have f309_69 := At.put (a := a308) (n := 69) (by rw [S308.1, hsN]; decide) (.int .u64 (count : Int))
      have S309 := S308.put (n := 69) (by decide) (by decide) (.int .u64 (count : Int))
      generalize a308.put (some 69) (.int .u64 (count : Int)) = a309 at S309 f309_2 f309_3 f309_4 f309_8 f309_10 f309_12 f309_13 f309_68 f309_69 ⊢
      refine list_val (v := (.int .u64 ((count / 4294967296 : Nat) : Int))) rfl (ex_shr32 rfl f309_69 hcount _) ?_
      show wpList _ _ _ _ (a309.put (some 70) (.int .u64 ((count / 4294967296 : Nat) : Int))) _
      have f310_2 := f309_2.ne (n := 70) (by decide) (.int .u64 ((count / 4294967296 : Nat) : Int))
      have f310_3 := f309_3.ne (n := 70) (by decide) (.int .u64 ((count / 4294967296 : Nat) : Int))
      have f310_4 := f309_4.ne (n := 70) (by decide) (.int .u64 ((count / 4294967296 : Nat) : Int))
      have f310_8 := f309_8.ne (n := 70) (by decide) (.int .u64 ((count / 4294967296 : Nat) : Int))
      have f310_10 := f309_10.ne (n := 70) (by decide) (.int .u64 ((count / 4294967296 : Nat) : Int))
      have f310_12 := f309_12.ne (n := 70) (by decide) (.int .u64 ((count / 4294967296 : Nat) : Int))
      have f310_13 := f309_13.ne (n := 70) (by decide) (.int .u64 ((count / 4294967296 : Nat) : Int))
      have f310_68 := f309_68.ne (n := 70) (by decide) (.int .u64 ((count / 4294967296 : Nat) : Int))
      have f310_70 := At.put (a := a309) (n := 70) (by rw [S309.1, hsN]; decide) (.int .u64 ((count / 4294967296 : Nat) : Int))
      have S310 := S309.put (n := 70) (by decide) (by decide) (.int .u64 ((count / 4294967296 : Nat) : Int))
      generalize a309.put (some 70) (.int .u64 ((count / 4294967296 : Nat) : Int)) = a310 at S310 f310_2 f310_3 f310_4 f310_8 f310_10 f310_12 f310_13 f310_68 f310_70 ⊢
      refine list_val (v := (wv (BitVec.ofNat 32 (count / 4294967296)))) rfl (ex_cvt64 rfl f310_70 _) ?_
      show wpList _ _ _ _ (a310.put (some 71) (wv (BitVec.ofNat 32 (count / 4294967296)))) _
      have f311_2 := f310_2.ne (n := 71) (by decide) (wv (BitVec.ofNat 32 (count / 4294967296)))
      have f311_3 := f310_3.ne (n := 71) (by decide) (wv (BitVec.ofNat 32 (count / 4294967296)))
      have f311_4 := f310_4.ne (n := 71) (by decide) (wv (BitVec.ofNat 32 (count / 4294967296)))
      have f311_8 := f310_8.ne (n := 71) (by decide) (wv (BitVec.ofNat 32 (count / 4294967296)))
      have f311_10 := f310_10.ne (n := 71) (by decide) (wv (BitVec.ofNat 32 (count / 4294967296)))
      have f311_12 := f310_12.ne (n := 71) (by decide) (wv (BitVec.ofNat 32 (count / 4294967296)))
      have f311_13 := f310_13.ne (n := 71) (by decide) (wv (BitVec.ofNat 32 (count / 4294967296)))
      have f311_68 := f310_68.ne (n := 71) (by decide) (wv (BitVec.ofNat 32 (count / 4294967296)))
      have f311_71 := At.put (a := a310) (n := 71) (by rw [S310.1, hsN]; decide) (wv (BitVec.ofNat 32 (count / 4294967296)))
      have S311 := S310.put (n := 71) (by decide) (by decide) (wv (BitVec.ofNat 32 (count / 4294967296)))
      generalize a310.put (some 71) (wv (BitVec.ofNat 32 (count / 4294967296))) = a311 at S311 f311_2 f311_3 f311_4 f311_8 f311_10 f311_12 f311_13 f311_68 f311_71 ⊢
      refine list_val (v := (wv (g (start0 h) 13 ^^^ BitVec.ofNat 32 (count / 4294967296)))) rfl (ex_xor rfl f311_68 f311_71 _) ?_
      show wpList _ _ _ _ (a311.put (some 72) (wv (g (start0 h) 13 ^^^ BitVec.ofNat 32 (count / 4294967296)))) _
      have f312_2 := f311_2.ne (n := 72) (by decide) (wv (g (start0 h) 13 ^^^ BitVec.ofNat 32 (count / 4294967296)))
      have f312_3 := f311_3.ne (n := 72) (by decide) (wv (g (start0 h) 13 ^^^ BitVec.ofNat 32 (count / 4294967296)))
      have f312_4 := f311_4.ne (n := 72) (by decide) (wv (g (start0 h) 13 ^^^ BitVec.ofNat 32 (count / 4294967296)))
      have f312_8 := f311_8.ne (n := 72) (by decide) (wv (g (start0 h) 13 ^^^ BitVec.ofNat 32 (count / 4294967296)))
      have f312_10 := f311_10.ne (n := 72) (by decide) (wv (g (start0 h) 13 ^^^ BitVec.ofNat 32 (count / 4294967296)))
      have f312_12 := f311_12.ne (n := 72) (by decide) (wv (g (start0 h) 13 ^^^ BitVec.ofNat 32 (count / 4294967296)))
      have f312_13 := f311_13.ne (n := 72) (by decide) (wv (g (start0 h) 13 ^^^ BitVec.ofNat 32 (count / 4294967296)))
      have f312_72 := At.put (a := a311) (n := 72) (by rw [S311.1, hsN]; decide) (wv (g (start0 h) 13 ^^^ BitVec.ofNat 32 (count / 4294967296)))
      have S312 := S311.put (n := 72) (by decide) (by decide) (wv (g (start0 h) 13 ^^^ BitVec.ofNat 32 (count / 4294967296)))
      generalize a311.put (some 72) (wv (g (start0 h) 13 ^^^ BitVec.ofNat 32 (count / 4294967296))) = a312 at S312 f312_2 f312_3 f312_4 f312_8 f312_10 f312_12 f312_13 f312_72 ⊢
      refine list_val (v := (.pointer (some ⟨V, 13, none⟩))) rfl (ex_idx16 rfl f312_13.eval rfl (by decide : 13 < 16) _) ?_
      show wpList _ _ _ _ (a312.put (some 73) (.pointer (some ⟨V, 13, none⟩))) _
      have f313_2 := f312_2.ne (n := 73) (by decide) (.pointer (some ⟨V, 13, none⟩))
      have f313_3 := f312_3.ne (n := 73) (by decide) (.pointer (some ⟨V, 13, none⟩))
      have f313_4 := f312_4.ne (n := 73) (by decide) (.pointer (some ⟨V, 13, none⟩))
      have f313_8 := f312_8.ne (n := 73) (by decide) (.pointer (some ⟨V, 13, none⟩))
      have f313_10 := f312_10.ne (n := 73) (by decide) (.pointer (some ⟨V, 13, none⟩))
      have f313_12 := f312_12.ne (n := 73) (by decide) (.pointer (some ⟨V, 13, none⟩))
      have f313_13 := f312_13.ne (n := 73) (by decide) (.pointer (some ⟨V, 13, none⟩))
      have f313_72 := f312_72.ne (n := 73) (by decide) (.pointer (some ⟨V, 13, none⟩))
      have f313_73 := At.put (a := a312) (n := 73) (by rw [S312.1, hsN]; decide) (.pointer (some ⟨V, 13, none⟩))
      have S313 := S312.put (n := 73) (by decide) (by decide) (.pointer (some ⟨V, 13, none⟩))
      generalize a312.put (some 73) (.pointer (some ⟨V, 13, none⟩)) = a313 at S313 f313_2 f313_3 f313_4 f313_8 f313_10 f313_12 f313_13 f313_72 f313_73 ⊢
      refine list_skip rfl rfl (ex_store32 rfl f313_73.eval f313_72.eval e2 f2) ?_
      have hAb := hAa.far (by omega : G ≠ V) (i := 13) (wv (g (start0 h) 13 ^^^ BitVec.ofNat 32 (count / 4294967296)))
      have hRb := hRa.far (by omega : G + 1 ≠ V) (i := 13) (wv (g (start0 h) 13 ^^^ BitVec.ofNat 32 (count / 4294967296)))
      have hMb := hMa.far (by omega : G + 1 + 1 ≠ V) (i := 13) (wv (g (start0 h) 13 ^^^ BitVec.ofNat 32 (count / 4294967296)))
      have hIb := hIa.far (by omega : Ib ≠ V) (i := 13) (wv (g (start0 h) 13 ^^^ BitVec.ofNat 32 (count / 4294967296)))
      have hBb := hBa.setCell (p := ⟨V, 13, none⟩) (by omega) (wv (g (start0 h) 13 ^^^ BitVec.ofNat 32 (count / 4294967296)))
      have hVb : Arr 48 ((wr.setCell ⟨V, 12, none⟩ (wv (g (start0 h) 12 ^^^ BitVec.ofNat 32 count))).setCell ⟨V, 13, none⟩ (wv (g (start0 h) 13 ^^^ BitVec.ofNat 32 (count / 4294967296)))) (V) (startL h count false) := by rw [startL_false h count]; exact hVa.set 13 (g (start0 h) 13 ^^^ BitVec.ofNat 32 (count / 4294967296))
      refine wpList_nil ?_
      show Code.wp _ _ _ a313 ((wr.setCell ⟨V, 12, none⟩ (wv (g (start0 h) 12 ^^^ BitVec.ofNat 32 count))).setCell ⟨V, 13, none⟩ (wv (g (start0 h) 13 ^^^ BitVec.ofNat 32 (count / 4294967296))))
      generalize (wr.setCell ⟨V, 12, none⟩ (wv (g (start0 h) 12 ^^^ BitVec.ofNat 32 count))).setCell ⟨V, 13, none⟩ (wv (g (start0 h) 13 ^^^ BitVec.ofNat 32 (count / 4294967296))) = w2 at hAb hRb hMb hIb hVb hBb ⊢
      clear hA hR hM hI hV hB hAa hRa hMa hIa hVa hBa e1 e2 f1 f2
      refine wp_seq_then (fun a wr => RJ w h m count last G Ib V h (startL h count last) a wr) ?_ ?_
      · refine wp_seq ?_
        refine wp_region_lit ?_
        refine list_val (v := (.bool last)) rfl (ex_move rfl f313_3.eval _) ?_
        show wpList _ _ _ _ (a313.put (some 74) (.bool last)) _
        have f314_2 := f313_2.ne (n := 74) (by decide) (.bool last)
        have f314_3 := f313_3.ne (n := 74) (by decide) (.bool last)
        have f314_4 := f313_4.ne (n := 74) (by decide) (.bool last)
        have f314_8 := f313_8.ne (n := 74) (by decide) (.bool last)
        have f314_10 := f313_10.ne (n := 74) (by decide) (.bool last)
        have f314_12 := f313_12.ne (n := 74) (by decide) (.bool last)
        have f314_13 := f313_13.ne (n := 74) (by decide) (.bool last)
        have f314_74 := At.put (a := a313) (n := 74) (by rw [S313.1, hsN]; decide) (.bool last)
        have S314 := S313.put (n := 74) (by decide) (by decide) (.bool last)
        generalize a313.put (some 74) (.bool last) = a314 at S314 f314_2 f314_3 f314_4 f314_8 f314_10 f314_12 f314_13 f314_74 ⊢
        refine wpList_nil ?_
        show Code.wp _ _ _ a314 w2
        have hsf := startL_len h count false
        cases last
        · refine wp_cond_false f314_74.eval ?_
          refine wp_skip ?_
          exact ⟨by rw [S314.1, hsN], by rw [S314.2.1, hdf], f314_2, f314_3, f314_4, f314_8, f314_10, f314_12, f314_13, hAb, hRb, hMb, hIb, hVb, hBb⟩
        · refine wp_cond_true f314_74.eval ?_
          refine wp_region_lit ?_
          have e3 := hVb.cell 14 (by omega)
          have f3 := hVb.froz 14
          refine list_val (v := (.pointer (some ⟨V, 14, none⟩))) rfl (ex_idx16 rfl f314_13.eval rfl (by decide : 14 < 16) _) ?_
          show wpList _ _ _ _ (a314.put (some 75) (.pointer (some ⟨V, 14, none⟩))) _
          have f315_2 := f314_2.ne (n := 75) (by decide) (.pointer (some ⟨V, 14, none⟩))
          have f315_3 := f314_3.ne (n := 75) (by decide) (.pointer (some ⟨V, 14, none⟩))
          have f315_4 := f314_4.ne (n := 75) (by decide) (.pointer (some ⟨V, 14, none⟩))
          have f315_8 := f314_8.ne (n := 75) (by decide) (.pointer (some ⟨V, 14, none⟩))
          have f315_10 := f314_10.ne (n := 75) (by decide) (.pointer (some ⟨V, 14, none⟩))
          have f315_12 := f314_12.ne (n := 75) (by decide) (.pointer (some ⟨V, 14, none⟩))
          have f315_13 := f314_13.ne (n := 75) (by decide) (.pointer (some ⟨V, 14, none⟩))
          have f315_75 := At.put (a := a314) (n := 75) (by rw [S314.1, hsN]; decide) (.pointer (some ⟨V, 14, none⟩))
          have S315 := S314.put (n := 75) (by decide) (by decide) (.pointer (some ⟨V, 14, none⟩))
          generalize a314.put (some 75) (.pointer (some ⟨V, 14, none⟩)) = a315 at S315 f315_2 f315_3 f315_4 f315_8 f315_10 f315_12 f315_13 f315_75 ⊢
          refine list_val (v := (wv (g (startL h count false) 14))) rfl (ex_load32 rfl f315_75.eval e3) ?_
          show wpList _ _ _ _ (a315.put (some 76) (wv (g (startL h count false) 14))) _
          have f316_2 := f315_2.ne (n := 76) (by decide) (wv (g (startL h count false) 14))
          have f316_3 := f315_3.ne (n := 76) (by decide) (wv (g (startL h count false) 14))
          have f316_4 := f315_4.ne (n := 76) (by decide) (wv (g (startL h count false) 14))
          have f316_8 := f315_8.ne (n := 76) (by decide) (wv (g (startL h count false) 14))
          have f316_10 := f315_10.ne (n := 76) (by decide) (wv (g (startL h count false) 14))
          have f316_12 := f315_12.ne (n := 76) (by decide) (wv (g (startL h count false) 14))
          have f316_13 := f315_13.ne (n := 76) (by decide) (wv (g (startL h count false) 14))
          have f316_76 := At.put (a := a315) (n := 76) (by rw [S315.1, hsN]; decide) (wv (g (startL h count false) 14))
          have S316 := S315.put (n := 76) (by decide) (by decide) (wv (g (startL h count false) 14))
          generalize a315.put (some 76) (wv (g (startL h count false) 14)) = a316 at S316 f316_2 f316_3 f316_4 f316_8 f316_10 f316_12 f316_13 f316_76 ⊢
          refine list_val (v := (wv (~~~ (g (startL h count false) 14)))) rfl (ex_not rfl f316_76 _) ?_
          show wpList _ _ _ _ (a316.put (some 77) (wv (~~~ (g (startL h count false) 14)))) _
          have f317_2 := f316_2.ne (n := 77) (by decide) (wv (~~~ (g (startL h count false) 14)))
          have f317_3 := f316_3.ne (n := 77) (by decide) (wv (~~~ (g (startL h count false) 14)))
          have f317_4 := f316_4.ne (n := 77) (by decide) (wv (~~~ (g (startL h count false) 14)))
          have f317_8 := f316_8.ne (n := 77) (by decide) (wv (~~~ (g (startL h count false) 14)))
          have f317_10 := f316_10.ne (n := 77) (by decide) (wv (~~~ (g (startL h count false) 14)))
          have f317_12 := f316_12.ne (n := 77) (by decide) (wv (~~~ (g (startL h count false) 14)))
          have f317_13 := f316_13.ne (n := 77) (by decide) (wv (~~~ (g (startL h count false) 14)))
          have f317_77 := At.put (a := a316) (n := 77) (by rw [S316.1, hsN]; decide) (wv (~~~ (g (startL h count false) 14)))
          have S317 := S316.put (n := 77) (by decide) (by decide) (wv (~~~ (g (startL h count false) 14)))
          generalize a316.put (some 77) (wv (~~~ (g (startL h count false) 14))) = a317 at S317 f317_2 f317_3 f317_4 f317_8 f317_10 f317_12 f317_13 f317_77 ⊢
          refine list_val (v := (.pointer (some ⟨V, 14, none⟩))) rfl (ex_idx16 rfl f317_13.eval rfl (by decide : 14 < 16) _) ?_
          show wpList _ _ _ _ (a317.put (some 78) (.pointer (some ⟨V, 14, none⟩))) _
          have f318_2 := f317_2.ne (n := 78) (by decide) (.pointer (some ⟨V, 14, none⟩))
          have f318_3 := f317_3.ne (n := 78) (by decide) (.pointer (some ⟨V, 14, none⟩))
          have f318_4 := f317_4.ne (n := 78) (by decide) (.pointer (some ⟨V, 14, none⟩))
          have f318_8 := f317_8.ne (n := 78) (by decide) (.pointer (some ⟨V, 14, none⟩))
          have f318_10 := f317_10.ne (n := 78) (by decide) (.pointer (some ⟨V, 14, none⟩))
          have f318_12 := f317_12.ne (n := 78) (by decide) (.pointer (some ⟨V, 14, none⟩))
          have f318_13 := f317_13.ne (n := 78) (by decide) (.pointer (some ⟨V, 14, none⟩))
          have f318_77 := f317_77.ne (n := 78) (by decide) (.pointer (some ⟨V, 14, none⟩))
          have f318_78 := At.put (a := a317) (n := 78) (by rw [S317.1, hsN]; decide) (.pointer (some ⟨V, 14, none⟩))
          have S318 := S317.put (n := 78) (by decide) (by decide) (.pointer (some ⟨V, 14, none⟩))
          generalize a317.put (some 78) (.pointer (some ⟨V, 14, none⟩)) = a318 at S318 f318_2 f318_3 f318_4 f318_8 f318_10 f318_12 f318_13 f318_77 f318_78 ⊢
          refine list_skip rfl rfl (ex_store32 rfl f318_78.eval f318_77.eval e3 f3) ?_
          have hAc := hAb.far (by omega : G ≠ V) (i := 14) (wv (~~~ (g (startL h count false) 14)))
          have hRc := hRb.far (by omega : G + 1 ≠ V) (i := 14) (wv (~~~ (g (startL h count false) 14)))
          have hMc := hMb.far (by omega : G + 1 + 1 ≠ V) (i := 14) (wv (~~~ (g (startL h count false) 14)))
          have hIc := hIb.far (by omega : Ib ≠ V) (i := 14) (wv (~~~ (g (startL h count false) 14)))
          have hBc := hBb.setCell (p := ⟨V, 14, none⟩) (by omega) (wv (~~~ (g (startL h count false) 14)))
          have hVc := hVb.set 14 (~~~ (g (startL h count false) 14))
          rw [← startL_true h count] at hVc
          refine wpList_nil ?_
          exact ⟨by rw [S318.1, hsN], by rw [S318.2.1, hdf], f318_2, f318_3, f318_4, f318_8, f318_10, f318_12, f318_13, hAc, hRc, hMc, hIc, hVc, hBc⟩
      · clear hAb hRb hMb hIb hVb hBb hs0 hsN hdf y2 y3 y4 y8 y10 y12 y13
        clear S313 f313_2 f313_3 f313_4 f313_8 f313_10 f313_12 f313_13 f313_72 f313_73
        intro a wr hJ0
        have hs0 := startL_len h count last
        refine wp_seq_then (fun a wr => RJ w h m count last G Ib V h (roundsL m 10 (startL h count last)) a wr) ?_ ?_
        · obtain ⟨hsN, hdf, y2, y3, y4, y8, y10, y12, y13, hA, hR, hM, hI, hV, hB⟩ := hJ0
          have S0 := Same.refl a 0 1000
          refine wp_seq ?_
          refine wp_region_lit ?_
          refine list_val (v := (.int .i64 ((0 : Nat) : Int))) rfl (ex_assign (v := (.int .i64 ((0 : Nat) : Int))) rfl rfl _) ?_
          show wpList _ _ _ _ (a.put (some 15) (.int .i64 ((0 : Nat) : Int))) _
          have f401_2 := y2.ne (n := 15) (by decide) (.int .i64 ((0 : Nat) : Int))
          have f401_3 := y3.ne (n := 15) (by decide) (.int .i64 ((0 : Nat) : Int))
          have f401_4 := y4.ne (n := 15) (by decide) (.int .i64 ((0 : Nat) : Int))
          have f401_8 := y8.ne (n := 15) (by decide) (.int .i64 ((0 : Nat) : Int))
          have f401_10 := y10.ne (n := 15) (by decide) (.int .i64 ((0 : Nat) : Int))
          have f401_12 := y12.ne (n := 15) (by decide) (.int .i64 ((0 : Nat) : Int))
          have f401_13 := y13.ne (n := 15) (by decide) (.int .i64 ((0 : Nat) : Int))
          have f401_15 := At.put (a := a) (n := 15) (by rw [S0.1, hsN]; decide) (.int .i64 ((0 : Nat) : Int))
          have S401 := S0.put (n := 15) (by decide) (by decide) (.int .i64 ((0 : Nat) : Int))
          generalize a.put (some 15) (.int .i64 ((0 : Nat) : Int)) = a401 at S401 f401_2 f401_3 f401_4 f401_8 f401_10 f401_12 f401_13 f401_15 ⊢
          refine wpList_nil ?_
          refine wp_block ?_
          refine wp_loop (RI4 w h m count last G Ib V) (MUR 15 10) ⟨0, by omega, f401_15, ⟨by rw [S401.1, hsN], by rw [S401.2.1, hdf], f401_2, f401_3, f401_4, f401_8, f401_10, f401_12, f401_13, hA, hR, hM, hI, hV, hB⟩⟩ (fun a wr hX => ?_)
          obtain ⟨r, hr, y15, ⟨hsN, hdf, y2, y3, y4, y8, y10, y12, y13, hA, hR, hM, hI, hV, hB⟩⟩ := hX
          have hmu : MUR 15 10 a wr = 10 - r := by unfold MUR; rw [y15.eval]; simp [intOf]
          rw [hmu]
          clear hmu
          have S0 := Same.refl a 0 1000
          refine wp_seq ?_
          refine wp_seq ?_
          refine wp_region_lit ?_
          refine list_val (v := (.int .i64 (r : Int))) rfl (ex_move rfl y15.eval _) ?_
          show wpList _ _ _ _ (a.put (some 79) (.int .i64 (r : Int))) _
          have f501_2 := y2.ne (n := 79) (by decide) (.int .i64 (r : Int))
          have f501_3 := y3.ne (n := 79) (by decide) (.int .i64 (r : Int))
          have f501_4 := y4.ne (n := 79) (by decide) (.int .i64 (r : Int))
          have f501_8 := y8.ne (n := 79) (by decide) (.int .i64 (r : Int))
          have f501_10 := y10.ne (n := 79) (by decide) (.int .i64 (r : Int))
          have f501_12 := y12.ne (n := 79) (by decide) (.int .i64 (r : Int))
          have f501_13 := y13.ne (n := 79) (by decide) (.int .i64 (r : Int))
          have f501_15 := y15.ne (n := 79) (by decide) (.int .i64 (r : Int))
          have f501_79 := At.put (a := a) (n := 79) (by rw [S0.1, hsN]; decide) (.int .i64 (r : Int))
          have S501 := S0.put (n := 79) (by decide) (by decide) (.int .i64 (r : Int))
          generalize a.put (some 79) (.int .i64 (r : Int)) = a501 at S501 f501_2 f501_3 f501_4 f501_8 f501_10 f501_12 f501_13 f501_15 f501_79 ⊢
          refine list_val (v := (.bool (decide (r < 10)))) rfl (ex_less rfl f501_79 _) ?_
          show wpList _ _ _ _ (a501.put (some 80) (.bool (decide (r < 10)))) _
          have f502_2 := f501_2.ne (n := 80) (by decide) (.bool (decide (r < 10)))
          have f502_3 := f501_3.ne (n := 80) (by decide) (.bool (decide (r < 10)))
          have f502_4 := f501_4.ne (n := 80) (by decide) (.bool (decide (r < 10)))
          have f502_8 := f501_8.ne (n := 80) (by decide) (.bool (decide (r < 10)))
          have f502_10 := f501_10.ne (n := 80) (by decide) (.bool (decide (r < 10)))
          have f502_12 := f501_12.ne (n := 80) (by decide) (.bool (decide (r < 10)))
          have f502_13 := f501_13.ne (n := 80) (by decide) (.bool (decide (r < 10)))
          have f502_15 := f501_15.ne (n := 80) (by decide) (.bool (decide (r < 10)))
          have f502_80 := At.put (a := a501) (n := 80) (by rw [S501.1, hsN]; decide) (.bool (decide (r < 10)))
          have S502 := S501.put (n := 80) (by decide) (by decide) (.bool (decide (r < 10)))
          generalize a501.put (some 80) (.bool (decide (r < 10))) = a502 at S502 f502_2 f502_3 f502_4 f502_8 f502_10 f502_12 f502_13 f502_15 f502_80 ⊢
          refine wpList_nil ?_
          show Code.wp _ _ _ a502 wr
          by_cases hlt : r < 10
          · rw [decide_eq_true hlt] at f502_80
            refine wp_cond_true f502_80.eval ?_
            refine wp_skip ?_
            show Code.wp _ _ _ a502 wr
            refine wp_seq ?_
            refine wp_block ?_
            refine wp_seq ?_
            refine wp_region_lit ?_
            refine list_val (v := (.int .i64 (r : Int))) rfl (ex_move rfl f502_15.eval _) ?_
            show wpList _ _ _ _ (a502.put (some 83) (.int .i64 (r : Int))) _
            have f503_2 := f502_2.ne (n := 83) (by decide) (.int .i64 (r : Int))
            have f503_3 := f502_3.ne (n := 83) (by decide) (.int .i64 (r : Int))
            have f503_4 := f502_4.ne (n := 83) (by decide) (.int .i64 (r : Int))
            have f503_8 := f502_8.ne (n := 83) (by decide) (.int .i64 (r : Int))
            have f503_10 := f502_10.ne (n := 83) (by decide) (.int .i64 (r : Int))
            have f503_12 := f502_12.ne (n := 83) (by decide) (.int .i64 (r : Int))
            have f503_13 := f502_13.ne (n := 83) (by decide) (.int .i64 (r : Int))
            have f503_15 := f502_15.ne (n := 83) (by decide) (.int .i64 (r : Int))
            have f503_83 := At.put (a := a502) (n := 83) (by rw [S502.1, hsN]; decide) (.int .i64 (r : Int))
            have S503 := S502.put (n := 83) (by decide) (by decide) (.int .i64 (r : Int))
            generalize a502.put (some 83) (.int .i64 (r : Int)) = a503 at S503 f503_2 f503_3 f503_4 f503_8 f503_10 f503_12 f503_13 f503_15 f503_83 ⊢
            refine list_enter (v := (.string ⟨(permS r).toArray⟩)) (R := fun w' => wr = w') rfl (ex_call1 ent_permutation rfl f503_83 _) (rperm_any r wr hlt) (fun w1 hw1 => ?_)
            subst hw1
            show wpList _ _ _ _ (a503.put (some 84) (.string ⟨(permS r).toArray⟩)) _
            have f504_2 := f503_2.ne (n := 84) (by decide) (.string ⟨(permS r).toArray⟩)
            have f504_3 := f503_3.ne (n := 84) (by decide) (.string ⟨(permS r).toArray⟩)
            have f504_4 := f503_4.ne (n := 84) (by decide) (.string ⟨(permS r).toArray⟩)
            have f504_8 := f503_8.ne (n := 84) (by decide) (.string ⟨(permS r).toArray⟩)
            have f504_10 := f503_10.ne (n := 84) (by decide) (.string ⟨(permS r).toArray⟩)
            have f504_12 := f503_12.ne (n := 84) (by decide) (.string ⟨(permS r).toArray⟩)
            have f504_13 := f503_13.ne (n := 84) (by decide) (.string ⟨(permS r).toArray⟩)
            have f504_15 := f503_15.ne (n := 84) (by decide) (.string ⟨(permS r).toArray⟩)
            have f504_84 := At.put (a := a503) (n := 84) (by rw [S503.1, hsN]; decide) (.string ⟨(permS r).toArray⟩)
            have S504 := S503.put (n := 84) (by decide) (by decide) (.string ⟨(permS r).toArray⟩)
            generalize a503.put (some 84) (.string ⟨(permS r).toArray⟩) = a504 at S504 f504_2 f504_3 f504_4 f504_8 f504_10 f504_12 f504_13 f504_15 f504_84 ⊢
            refine list_val (v := (.string ⟨(permS r).toArray⟩)) rfl (ex_assign rfl f504_84.eval _) ?_
            show wpList _ _ _ _ (a504.put (some 16) (.string ⟨(permS r).toArray⟩)) _
            have f505_2 := f504_2.ne (n := 16) (by decide) (.string ⟨(permS r).toArray⟩)
            have f505_3 := f504_3.ne (n := 16) (by decide) (.string ⟨(permS r).toArray⟩)
            have f505_4 := f504_4.ne (n := 16) (by decide) (.string ⟨(permS r).toArray⟩)
            have f505_8 := f504_8.ne (n := 16) (by decide) (.string ⟨(permS r).toArray⟩)
            have f505_10 := f504_10.ne (n := 16) (by decide) (.string ⟨(permS r).toArray⟩)
            have f505_12 := f504_12.ne (n := 16) (by decide) (.string ⟨(permS r).toArray⟩)
            have f505_13 := f504_13.ne (n := 16) (by decide) (.string ⟨(permS r).toArray⟩)
            have f505_15 := f504_15.ne (n := 16) (by decide) (.string ⟨(permS r).toArray⟩)
            have f505_16 := At.put (a := a504) (n := 16) (by rw [S504.1, hsN]; decide) (.string ⟨(permS r).toArray⟩)
            have S505 := S504.put (n := 16) (by decide) (by decide) (.string ⟨(permS r).toArray⟩)
            generalize a504.put (some 16) (.string ⟨(permS r).toArray⟩) = a505 at S505 f505_2 f505_3 f505_4 f505_8 f505_10 f505_12 f505_13 f505_15 f505_16 ⊢
            refine wpList_nil ?_
            show Code.wp _ _ _ a505 wr
            refine wp_seq ?_
            refine wp_region_lit ?_
            refine list_val (v := (.int .i64 ((0 : Nat) : Int))) rfl (ex_assign (v := (.int .i64 ((0 : Nat) : Int))) rfl rfl _) ?_
            show wpList _ _ _ _ (a505.put (some 17) (.int .i64 ((0 : Nat) : Int))) _
            have f506_2 := f505_2.ne (n := 17) (by decide) (.int .i64 ((0 : Nat) : Int))
            have f506_3 := f505_3.ne (n := 17) (by decide) (.int .i64 ((0 : Nat) : Int))
            have f506_4 := f505_4.ne (n := 17) (by decide) (.int .i64 ((0 : Nat) : Int))
            have f506_8 := f505_8.ne (n := 17) (by decide) (.int .i64 ((0 : Nat) : Int))
            have f506_10 := f505_10.ne (n := 17) (by decide) (.int .i64 ((0 : Nat) : Int))
            have f506_12 := f505_12.ne (n := 17) (by decide) (.int .i64 ((0 : Nat) : Int))
            have f506_13 := f505_13.ne (n := 17) (by decide) (.int .i64 ((0 : Nat) : Int))
            have f506_15 := f505_15.ne (n := 17) (by decide) (.int .i64 ((0 : Nat) : Int))
            have f506_16 := f505_16.ne (n := 17) (by decide) (.int .i64 ((0 : Nat) : Int))
            have f506_17 := At.put (a := a505) (n := 17) (by rw [S505.1, hsN]; decide) (.int .i64 ((0 : Nat) : Int))
            have S506 := S505.put (n := 17) (by decide) (by decide) (.int .i64 ((0 : Nat) : Int))
            generalize a505.put (some 17) (.int .i64 ((0 : Nat) : Int)) = a506 at S506 f506_2 f506_3 f506_4 f506_8 f506_10 f506_12 f506_13 f506_15 f506_16 f506_17 ⊢
            refine wpList_nil ?_
            refine wp_block ?_
            refine wp_loop (RI6 w h m count last G Ib V r) (MUR 17 8) ⟨0, by omega, f506_15, f506_16, f506_17, ⟨by rw [S506.1, hsN], by rw [S506.2.1, hdf], f506_2, f506_3, f506_4, f506_8, f506_10, f506_12, f506_13, hA, hR, hM, hI, hV, hB⟩⟩ (fun a wr hX => ?_)
            clear S506 hA hR hM hI hV hB hsN hdf y2 y3 y4 y8 y10 y12 y13 y15 f506_2 f506_3 f506_4 f506_8 f506_10 f506_12 f506_13 f506_15 f506_16 f506_17
            have hrlt := hlt
            clear hlt
            obtain ⟨k, hk, y15, y16, y17, ⟨hsN, hdf, y2, y3, y4, y8, y10, y12, y13, hA, hR, hM, hI, hV, hB⟩⟩ := hX
            have hmu : MUR 17 8 a wr = 8 - k := by unfold MUR; rw [y17.eval]; simp [intOf]
            rw [hmu]
            clear hmu
            have S0 := Same.refl a 0 1000
            refine wp_seq ?_
            refine wp_seq ?_
            refine wp_region_lit ?_
            refine list_val (v := (.int .i64 (k : Int))) rfl (ex_move rfl y17.eval _) ?_
            show wpList _ _ _ _ (a.put (some 85) (.int .i64 (k : Int))) _
            have f601_2 := y2.ne (n := 85) (by decide) (.int .i64 (k : Int))
            have f601_3 := y3.ne (n := 85) (by decide) (.int .i64 (k : Int))
            have f601_4 := y4.ne (n := 85) (by decide) (.int .i64 (k : Int))
            have f601_8 := y8.ne (n := 85) (by decide) (.int .i64 (k : Int))
            have f601_10 := y10.ne (n := 85) (by decide) (.int .i64 (k : Int))
            have f601_12 := y12.ne (n := 85) (by decide) (.int .i64 (k : Int))
            have f601_13 := y13.ne (n := 85) (by decide) (.int .i64 (k : Int))
            have f601_15 := y15.ne (n := 85) (by decide) (.int .i64 (k : Int))
            have f601_16 := y16.ne (n := 85) (by decide) (.int .i64 (k : Int))
            have f601_17 := y17.ne (n := 85) (by decide) (.int .i64 (k : Int))
            have f601_85 := At.put (a := a) (n := 85) (by rw [S0.1, hsN]; decide) (.int .i64 (k : Int))
            have S601 := S0.put (n := 85) (by decide) (by decide) (.int .i64 (k : Int))
            generalize a.put (some 85) (.int .i64 (k : Int)) = a601 at S601 f601_2 f601_3 f601_4 f601_8 f601_10 f601_12 f601_13 f601_15 f601_16 f601_17 f601_85 ⊢
            refine list_val (v := (.bool (decide (k < 8)))) rfl (ex_less rfl f601_85 _) ?_
            show wpList _ _ _ _ (a601.put (some 86) (.bool (decide (k < 8)))) _
            have f602_2 := f601_2.ne (n := 86) (by decide) (.bool (decide (k < 8)))
            have f602_3 := f601_3.ne (n := 86) (by decide) (.bool (decide (k < 8)))
            have f602_4 := f601_4.ne (n := 86) (by decide) (.bool (decide (k < 8)))
            have f602_8 := f601_8.ne (n := 86) (by decide) (.bool (decide (k < 8)))
            have f602_10 := f601_10.ne (n := 86) (by decide) (.bool (decide (k < 8)))
            have f602_12 := f601_12.ne (n := 86) (by decide) (.bool (decide (k < 8)))
            have f602_13 := f601_13.ne (n := 86) (by decide) (.bool (decide (k < 8)))
            have f602_15 := f601_15.ne (n := 86) (by decide) (.bool (decide (k < 8)))
            have f602_16 := f601_16.ne (n := 86) (by decide) (.bool (decide (k < 8)))
            have f602_17 := f601_17.ne (n := 86) (by decide) (.bool (decide (k < 8)))
            have f602_86 := At.put (a := a601) (n := 86) (by rw [S601.1, hsN]; decide) (.bool (decide (k < 8)))
            have S602 := S601.put (n := 86) (by decide) (by decide) (.bool (decide (k < 8)))
            generalize a601.put (some 86) (.bool (decide (k < 8))) = a602 at S602 f602_2 f602_3 f602_4 f602_8 f602_10 f602_12 f602_13 f602_15 f602_16 f602_17 f602_86 ⊢
            refine wpList_nil ?_
            show Code.wp _ _ _ a602 wr
            by_cases hlt : k < 8
            · rw [decide_eq_true hlt] at f602_86
              refine wp_cond_true f602_86.eval ?_
              refine wp_skip ?_
              show Code.wp _ _ _ a602 wr
              refine wp_seq ?_
              refine wp_block ?_
              refine wp_seq ?_
              refine wp_region_lit ?_
              obtain ⟨hcl, hc0, hc1, hc2, hc3⟩ := colL_get k hlt
              refine list_val (v := (.int .i64 (k : Int))) rfl (ex_move rfl f602_17.eval _) ?_
              show wpList _ _ _ _ (a602.put (some 89) (.int .i64 (k : Int))) _
              have f603_2 := f602_2.ne (n := 89) (by decide) (.int .i64 (k : Int))
              have f603_3 := f602_3.ne (n := 89) (by decide) (.int .i64 (k : Int))
              have f603_4 := f602_4.ne (n := 89) (by decide) (.int .i64 (k : Int))
              have f603_8 := f602_8.ne (n := 89) (by decide) (.int .i64 (k : Int))
              have f603_10 := f602_10.ne (n := 89) (by decide) (.int .i64 (k : Int))
              have f603_12 := f602_12.ne (n := 89) (by decide) (.int .i64 (k : Int))
              have f603_13 := f602_13.ne (n := 89) (by decide) (.int .i64 (k : Int))
              have f603_15 := f602_15.ne (n := 89) (by decide) (.int .i64 (k : Int))
              have f603_16 := f602_16.ne (n := 89) (by decide) (.int .i64 (k : Int))
              have f603_17 := f602_17.ne (n := 89) (by decide) (.int .i64 (k : Int))
              have f603_89 := At.put (a := a602) (n := 89) (by rw [S602.1, hsN]; decide) (.int .i64 (k : Int))
              have S603 := S602.put (n := 89) (by decide) (by decide) (.int .i64 (k : Int))
              generalize a602.put (some 89) (.int .i64 (k : Int)) = a603 at S603 f603_2 f603_3 f603_4 f603_8 f603_10 f603_12 f603_13 f603_15 f603_16 f603_17 f603_89 ⊢
              refine list_enter (v := iv4 (colL k)) (R := fun w' => Below wr.heap.size wr w') rfl (ex_call1 ent_columns rfl f603_89 _) (rcol_any k wr hlt) (fun w1 hb1 => ?_)
              show wpList _ _ _ _ (a603.put (some 90) (iv4 (colL k))) _
              have f604_2 := f603_2.ne (n := 90) (by decide) (iv4 (colL k))
              have f604_3 := f603_3.ne (n := 90) (by decide) (iv4 (colL k))
              have f604_4 := f603_4.ne (n := 90) (by decide) (iv4 (colL k))
              have f604_8 := f603_8.ne (n := 90) (by decide) (iv4 (colL k))
              have f604_10 := f603_10.ne (n := 90) (by decide) (iv4 (colL k))
              have f604_12 := f603_12.ne (n := 90) (by decide) (iv4 (colL k))
              have f604_13 := f603_13.ne (n := 90) (by decide) (iv4 (colL k))
              have f604_15 := f603_15.ne (n := 90) (by decide) (iv4 (colL k))
              have f604_16 := f603_16.ne (n := 90) (by decide) (iv4 (colL k))
              have f604_17 := f603_17.ne (n := 90) (by decide) (iv4 (colL k))
              have f604_90 := At.put (a := a603) (n := 90) (by rw [S603.1, hsN]; decide) (iv4 (colL k))
              have S604 := S603.put (n := 90) (by decide) (by decide) (iv4 (colL k))
              generalize a603.put (some 90) (iv4 (colL k)) = a604 at S604 f604_2 f604_3 f604_4 f604_8 f604_10 f604_12 f604_13 f604_15 f604_16 f604_17 f604_90 ⊢
              have hA1 := hA.below hb1
              have hR1 := hR.below hb1
              have hM1 := hM.below hb1
              have hI1 := hI.below hb1
              have hV1 := hV.below hb1
              have hB1 := chain hB hb1
              obtain ⟨Eb, hEb⟩ : ∃ x, w1.heap.size = x := ⟨_, rfl⟩
              have hlE := hV1.lt
              rw [hEb] at hlE
              refine list_any rfl (ex_alloc4 rfl w1) ?_
              rw [hEb]
              show wpList _ _ _ _ (a604.put (some 18) (.pointer (some ⟨Eb, 0, none⟩))) _
              have f605_2 := f604_2.ne (n := 18) (by decide) (.pointer (some ⟨Eb, 0, none⟩))
              have f605_3 := f604_3.ne (n := 18) (by decide) (.pointer (some ⟨Eb, 0, none⟩))
              have f605_4 := f604_4.ne (n := 18) (by decide) (.pointer (some ⟨Eb, 0, none⟩))
              have f605_8 := f604_8.ne (n := 18) (by decide) (.pointer (some ⟨Eb, 0, none⟩))
              have f605_10 := f604_10.ne (n := 18) (by decide) (.pointer (some ⟨Eb, 0, none⟩))
              have f605_12 := f604_12.ne (n := 18) (by decide) (.pointer (some ⟨Eb, 0, none⟩))
              have f605_13 := f604_13.ne (n := 18) (by decide) (.pointer (some ⟨Eb, 0, none⟩))
              have f605_15 := f604_15.ne (n := 18) (by decide) (.pointer (some ⟨Eb, 0, none⟩))
              have f605_16 := f604_16.ne (n := 18) (by decide) (.pointer (some ⟨Eb, 0, none⟩))
              have f605_17 := f604_17.ne (n := 18) (by decide) (.pointer (some ⟨Eb, 0, none⟩))
              have f605_90 := f604_90.ne (n := 18) (by decide) (.pointer (some ⟨Eb, 0, none⟩))
              have f605_18 := At.put (a := a604) (n := 18) (by rw [S604.1, hsN]; decide) (.pointer (some ⟨Eb, 0, none⟩))
              have S605 := S604.put (n := 18) (by decide) (by decide) (.pointer (some ⟨Eb, 0, none⟩))
              generalize a604.put (some 18) (.pointer (some ⟨Eb, 0, none⟩)) = a605 at S605 f605_2 f605_3 f605_4 f605_8 f605_10 f605_12 f605_13 f605_15 f605_16 f605_17 f605_90 f605_18 ⊢
              have hE2 := heap_alloc_new w1 (.cells (nats [0, 0, 0, 0]).toArray 50)
              rw [hEb] at hE2
              have hA2 := arr_old hA1 (.cells (nats [0, 0, 0, 0]).toArray 50)
              have hR2 := arr_old hR1 (.cells (nats [0, 0, 0, 0]).toArray 50)
              have hM2 := arr_old hM1 (.cells (nats [0, 0, 0, 0]).toArray 50)
              have hI2 := arr_old hI1 (.cells (nats [0, 0, 0, 0]).toArray 50)
              have hV2 := arr_old hV1 (.cells (nats [0, 0, 0, 0]).toArray 50)
              have hB2 := hB1.alloc hB1.size (.cells (nats [0, 0, 0, 0]).toArray 50)
              have hEle : w.heap.size ≤ Eb := by omega
              have hi4 : (Tryd.prog.info? 50).map (·.size) = some (nats (colL k)).toArray.size := by rw [info_4i]; simp [nats_len, hcl]
              refine list_skip (w' := (w1.alloc (.cells (nats [0, 0, 0, 0]).toArray 50)).setRow Eb (nats (colL k)).toArray) rfl rfl (ex_storerow rfl f605_18.eval f605_90.eval hE2 hi4 (by simp [nats_len, hcl]) (nats_one _)) ?_
              have hA3 := arr_row (cs := (nats (colL k)).toArray) hA2 (show _ ≠ Eb by omega)
              have hR3 := arr_row (cs := (nats (colL k)).toArray) hR2 (show _ ≠ Eb by omega)
              have hM3 := arr_row (cs := (nats (colL k)).toArray) hM2 (show _ ≠ Eb by omega)
              have hI3 := arr_row (cs := (nats (colL k)).toArray) hI2 (show _ ≠ Eb by omega)
              have hV3 := arr_row (cs := (nats (colL k)).toArray) hV2 (show _ ≠ Eb by omega)
              have hE3 := setRow_heap _ Eb _ (nats (colL k)).toArray _ _ hE2
              have hB3 := below_setRow hB2 hEle (nats (colL k)).toArray
              generalize (w1.alloc (.cells (nats [0, 0, 0, 0]).toArray 50)).setRow Eb (nats (colL k)).toArray = w3 at hA3 hR3 hM3 hI3 hV3 hE3 hB3 ⊢
              refine wpList_nil ?_
              show Code.wp _ _ _ a605 w3
              have hvl : (roundK m r k (roundsL m r (startL h count last))).length = 16 := by rw [roundK_len, roundsL_len, hs0]
              have e0 := cell_nats (show w3.drew.heap[Eb]? = _ from hE3) 0 (by omega)
              have e1 := cell_nats (show w3.drew.heap[Eb]? = _ from hE3) 1 (by omega)
              have e2 := cell_nats (show w3.drew.heap[Eb]? = _ from hE3) 2 (by omega)
              have e3 := cell_nats (show w3.drew.heap[Eb]? = _ from hE3) 3 (by omega)
              have hpl := permS_len r hrlt
              have hm0 := pm_lt r (2 * k) hrlt (by omega)
              have hm1 := pm_lt r (2 * k + 1) hrlt (by omega)
              have e4 := hM3.drew.cell (pm r (2 * k)) (by omega)
              have e5 := hM3.drew.cell (pm r (2 * k + 1)) (by omega)
              have hss : (⟨(permS r).toArray⟩ : ByteArray).size = 16 := by rw [str_size]; exact hpl
              have hg0 := str_get (permS r) (2 * k) (by omega)
              have hg1 := str_get (permS r) (2 * k + 1) (by omega)
              have hd0 := rdigit_any ((permS r).getD (2 * k) 0) w3.drew (permS_lo r (2 * k) hrlt (by omega))
              have hd1 := rdigit_any ((permS r).getD (2 * k + 1) 0) w3.drew (permS_lo r (2 * k + 1) hrlt (by omega))
              refine wp_region_still_tail 24 (by kernel_rfl) (by kernel_rfl) ?_
              simp only [List.take_succ_cons, List.take_zero, List.drop_succ_cons, List.drop_zero]
              refine still_val (v := (av (roundK m r k (roundsL m r (startL h count last))))) rfl (ex_loadrow rfl f605_13.eval (show w3.drew.heap[V]? = _ from hV3) Tryd.underlying48 (ir16 _ hvl)) ?_
              show wpStill _ _ _ _ _ (a605.put (some 91) (av (roundK m r k (roundsL m r (startL h count last)))))
              have f606_2 := f605_2.ne (n := 91) (by decide) (av (roundK m r k (roundsL m r (startL h count last))))
              have f606_3 := f605_3.ne (n := 91) (by decide) (av (roundK m r k (roundsL m r (startL h count last))))
              have f606_4 := f605_4.ne (n := 91) (by decide) (av (roundK m r k (roundsL m r (startL h count last))))
              have f606_8 := f605_8.ne (n := 91) (by decide) (av (roundK m r k (roundsL m r (startL h count last))))
              have f606_10 := f605_10.ne (n := 91) (by decide) (av (roundK m r k (roundsL m r (startL h count last))))
              have f606_12 := f605_12.ne (n := 91) (by decide) (av (roundK m r k (roundsL m r (startL h count last))))
              have f606_13 := f605_13.ne (n := 91) (by decide) (av (roundK m r k (roundsL m r (startL h count last))))
              have f606_15 := f605_15.ne (n := 91) (by decide) (av (roundK m r k (roundsL m r (startL h count last))))
              have f606_16 := f605_16.ne (n := 91) (by decide) (av (roundK m r k (roundsL m r (startL h count last))))
              have f606_17 := f605_17.ne (n := 91) (by decide) (av (roundK m r k (roundsL m r (startL h count last))))
              have f606_18 := f605_18.ne (n := 91) (by decide) (av (roundK m r k (roundsL m r (startL h count last))))
              have f606_91 := At.put (a := a605) (n := 91) (by rw [S605.1, hsN]; decide) (av (roundK m r k (roundsL m r (startL h count last))))
              have S606 := S605.put (n := 91) (by decide) (by decide) (av (roundK m r k (roundsL m r (startL h count last))))
              generalize a605.put (some 91) (av (roundK m r k (roundsL m r (startL h count last)))) = a606 at S606 f606_2 f606_3 f606_4 f606_8 f606_10 f606_12 f606_13 f606_15 f606_16 f606_17 f606_18 f606_91 ⊢
              refine still_val (v := (.pointer (some ⟨Eb, 0, none⟩))) rfl (ex_idx4 rfl f606_18.eval rfl (by decide : 0 < 4) _) ?_
              show wpStill _ _ _ _ _ (a606.put (some 92) (.pointer (some ⟨Eb, 0, none⟩)))
              have f607_2 := f606_2.ne (n := 92) (by decide) (.pointer (some ⟨Eb, 0, none⟩))
              have f607_3 := f606_3.ne (n := 92) (by decide) (.pointer (some ⟨Eb, 0, none⟩))
              have f607_4 := f606_4.ne (n := 92) (by decide) (.pointer (some ⟨Eb, 0, none⟩))
              have f607_8 := f606_8.ne (n := 92) (by decide) (.pointer (some ⟨Eb, 0, none⟩))
              have f607_10 := f606_10.ne (n := 92) (by decide) (.pointer (some ⟨Eb, 0, none⟩))
              have f607_12 := f606_12.ne (n := 92) (by decide) (.pointer (some ⟨Eb, 0, none⟩))
              have f607_13 := f606_13.ne (n := 92) (by decide) (.pointer (some ⟨Eb, 0, none⟩))
              have f607_15 := f606_15.ne (n := 92) (by decide) (.pointer (some ⟨Eb, 0, none⟩))
              have f607_16 := f606_16.ne (n := 92) (by decide) (.pointer (some ⟨Eb, 0, none⟩))
              have f607_17 := f606_17.ne (n := 92) (by decide) (.pointer (some ⟨Eb, 0, none⟩))
              have f607_18 := f606_18.ne (n := 92) (by decide) (.pointer (some ⟨Eb, 0, none⟩))
              have f607_91 := f606_91.ne (n := 92) (by decide) (.pointer (some ⟨Eb, 0, none⟩))
              have f607_92 := At.put (a := a606) (n := 92) (by rw [S606.1, hsN]; decide) (.pointer (some ⟨Eb, 0, none⟩))
              have S607 := S606.put (n := 92) (by decide) (by decide) (.pointer (some ⟨Eb, 0, none⟩))
              generalize a606.put (some 92) (.pointer (some ⟨Eb, 0, none⟩)) = a607 at S607 f607_2 f607_3 f607_4 f607_8 f607_10 f607_12 f607_13 f607_15 f607_16 f607_17 f607_18 f607_91 f607_92 ⊢
              refine still_val (v := (.int .i64 (((colL k).getD 0 0 : Nat) : Int))) rfl (ex_loadI rfl f607_92.eval e0) ?_
              show wpStill _ _ _ _ _ (a607.put (some 93) (.int .i64 (((colL k).getD 0 0 : Nat) : Int)))
              have f608_2 := f607_2.ne (n := 93) (by decide) (.int .i64 (((colL k).getD 0 0 : Nat) : Int))
              have f608_3 := f607_3.ne (n := 93) (by decide) (.int .i64 (((colL k).getD 0 0 : Nat) : Int))
              have f608_4 := f607_4.ne (n := 93) (by decide) (.int .i64 (((colL k).getD 0 0 : Nat) : Int))
              have f608_8 := f607_8.ne (n := 93) (by decide) (.int .i64 (((colL k).getD 0 0 : Nat) : Int))
              have f608_10 := f607_10.ne (n := 93) (by decide) (.int .i64 (((colL k).getD 0 0 : Nat) : Int))
              have f608_12 := f607_12.ne (n := 93) (by decide) (.int .i64 (((colL k).getD 0 0 : Nat) : Int))
              have f608_13 := f607_13.ne (n := 93) (by decide) (.int .i64 (((colL k).getD 0 0 : Nat) : Int))
              have f608_15 := f607_15.ne (n := 93) (by decide) (.int .i64 (((colL k).getD 0 0 : Nat) : Int))
              have f608_16 := f607_16.ne (n := 93) (by decide) (.int .i64 (((colL k).getD 0 0 : Nat) : Int))
              have f608_17 := f607_17.ne (n := 93) (by decide) (.int .i64 (((colL k).getD 0 0 : Nat) : Int))
              have f608_18 := f607_18.ne (n := 93) (by decide) (.int .i64 (((colL k).getD 0 0 : Nat) : Int))
              have f608_91 := f607_91.ne (n := 93) (by decide) (.int .i64 (((colL k).getD 0 0 : Nat) : Int))
              have f608_93 := At.put (a := a607) (n := 93) (by rw [S607.1, hsN]; decide) (.int .i64 (((colL k).getD 0 0 : Nat) : Int))
              have S608 := S607.put (n := 93) (by decide) (by decide) (.int .i64 (((colL k).getD 0 0 : Nat) : Int))
              generalize a607.put (some 93) (.int .i64 (((colL k).getD 0 0 : Nat) : Int)) = a608 at S608 f608_2 f608_3 f608_4 f608_8 f608_10 f608_12 f608_13 f608_15 f608_16 f608_17 f608_18 f608_91 f608_93 ⊢
              refine still_val (v := (.pointer (some ⟨Eb, 1, none⟩))) rfl (ex_idx4 rfl f608_18.eval rfl (by decide : 1 < 4) _) ?_
              show wpStill _ _ _ _ _ (a608.put (some 94) (.pointer (some ⟨Eb, 1, none⟩)))
              have f609_2 := f608_2.ne (n := 94) (by decide) (.pointer (some ⟨Eb, 1, none⟩))
              have f609_3 := f608_3.ne (n := 94) (by decide) (.pointer (some ⟨Eb, 1, none⟩))
              have f609_4 := f608_4.ne (n := 94) (by decide) (.pointer (some ⟨Eb, 1, none⟩))
              have f609_8 := f608_8.ne (n := 94) (by decide) (.pointer (some ⟨Eb, 1, none⟩))
              have f609_10 := f608_10.ne (n := 94) (by decide) (.pointer (some ⟨Eb, 1, none⟩))
              have f609_12 := f608_12.ne (n := 94) (by decide) (.pointer (some ⟨Eb, 1, none⟩))
              have f609_13 := f608_13.ne (n := 94) (by decide) (.pointer (some ⟨Eb, 1, none⟩))
              have f609_15 := f608_15.ne (n := 94) (by decide) (.pointer (some ⟨Eb, 1, none⟩))
              have f609_16 := f608_16.ne (n := 94) (by decide) (.pointer (some ⟨Eb, 1, none⟩))
              have f609_17 := f608_17.ne (n := 94) (by decide) (.pointer (some ⟨Eb, 1, none⟩))
              have f609_18 := f608_18.ne (n := 94) (by decide) (.pointer (some ⟨Eb, 1, none⟩))
              have f609_91 := f608_91.ne (n := 94) (by decide) (.pointer (some ⟨Eb, 1, none⟩))
              have f609_93 := f608_93.ne (n := 94) (by decide) (.pointer (some ⟨Eb, 1, none⟩))
              have f609_94 := At.put (a := a608) (n := 94) (by rw [S608.1, hsN]; decide) (.pointer (some ⟨Eb, 1, none⟩))
              have S609 := S608.put (n := 94) (by decide) (by decide) (.pointer (some ⟨Eb, 1, none⟩))
              generalize a608.put (some 94) (.pointer (some ⟨Eb, 1, none⟩)) = a609 at S609 f609_2 f609_3 f609_4 f609_8 f609_10 f609_12 f609_13 f609_15 f609_16 f609_17 f609_18 f609_91 f609_93 f609_94 ⊢
              refine still_val (v := (.int .i64 (((colL k).getD 1 0 : Nat) : Int))) rfl (ex_loadI rfl f609_94.eval e1) ?_
              show wpStill _ _ _ _ _ (a609.put (some 95) (.int .i64 (((colL k).getD 1 0 : Nat) : Int)))
              have f610_2 := f609_2.ne (n := 95) (by decide) (.int .i64 (((colL k).getD 1 0 : Nat) : Int))
              have f610_3 := f609_3.ne (n := 95) (by decide) (.int .i64 (((colL k).getD 1 0 : Nat) : Int))
              have f610_4 := f609_4.ne (n := 95) (by decide) (.int .i64 (((colL k).getD 1 0 : Nat) : Int))
              have f610_8 := f609_8.ne (n := 95) (by decide) (.int .i64 (((colL k).getD 1 0 : Nat) : Int))
              have f610_10 := f609_10.ne (n := 95) (by decide) (.int .i64 (((colL k).getD 1 0 : Nat) : Int))
              have f610_12 := f609_12.ne (n := 95) (by decide) (.int .i64 (((colL k).getD 1 0 : Nat) : Int))
              have f610_13 := f609_13.ne (n := 95) (by decide) (.int .i64 (((colL k).getD 1 0 : Nat) : Int))
              have f610_15 := f609_15.ne (n := 95) (by decide) (.int .i64 (((colL k).getD 1 0 : Nat) : Int))
              have f610_16 := f609_16.ne (n := 95) (by decide) (.int .i64 (((colL k).getD 1 0 : Nat) : Int))
              have f610_17 := f609_17.ne (n := 95) (by decide) (.int .i64 (((colL k).getD 1 0 : Nat) : Int))
              have f610_18 := f609_18.ne (n := 95) (by decide) (.int .i64 (((colL k).getD 1 0 : Nat) : Int))
              have f610_91 := f609_91.ne (n := 95) (by decide) (.int .i64 (((colL k).getD 1 0 : Nat) : Int))
              have f610_93 := f609_93.ne (n := 95) (by decide) (.int .i64 (((colL k).getD 1 0 : Nat) : Int))
              have f610_95 := At.put (a := a609) (n := 95) (by rw [S609.1, hsN]; decide) (.int .i64 (((colL k).getD 1 0 : Nat) : Int))
              have S610 := S609.put (n := 95) (by decide) (by decide) (.int .i64 (((colL k).getD 1 0 : Nat) : Int))
              generalize a609.put (some 95) (.int .i64 (((colL k).getD 1 0 : Nat) : Int)) = a610 at S610 f610_2 f610_3 f610_4 f610_8 f610_10 f610_12 f610_13 f610_15 f610_16 f610_17 f610_18 f610_91 f610_93 f610_95 ⊢
              refine still_val (v := (.pointer (some ⟨Eb, 2, none⟩))) rfl (ex_idx4 rfl f610_18.eval rfl (by decide : 2 < 4) _) ?_
              show wpStill _ _ _ _ _ (a610.put (some 96) (.pointer (some ⟨Eb, 2, none⟩)))
              have f611_2 := f610_2.ne (n := 96) (by decide) (.pointer (some ⟨Eb, 2, none⟩))
              have f611_3 := f610_3.ne (n := 96) (by decide) (.pointer (some ⟨Eb, 2, none⟩))
              have f611_4 := f610_4.ne (n := 96) (by decide) (.pointer (some ⟨Eb, 2, none⟩))
              have f611_8 := f610_8.ne (n := 96) (by decide) (.pointer (some ⟨Eb, 2, none⟩))
              have f611_10 := f610_10.ne (n := 96) (by decide) (.pointer (some ⟨Eb, 2, none⟩))
              have f611_12 := f610_12.ne (n := 96) (by decide) (.pointer (some ⟨Eb, 2, none⟩))
              have f611_13 := f610_13.ne (n := 96) (by decide) (.pointer (some ⟨Eb, 2, none⟩))
              have f611_15 := f610_15.ne (n := 96) (by decide) (.pointer (some ⟨Eb, 2, none⟩))
              have f611_16 := f610_16.ne (n := 96) (by decide) (.pointer (some ⟨Eb, 2, none⟩))
              have f611_17 := f610_17.ne (n := 96) (by decide) (.pointer (some ⟨Eb, 2, none⟩))
              have f611_18 := f610_18.ne (n := 96) (by decide) (.pointer (some ⟨Eb, 2, none⟩))
              have f611_91 := f610_91.ne (n := 96) (by decide) (.pointer (some ⟨Eb, 2, none⟩))
              have f611_93 := f610_93.ne (n := 96) (by decide) (.pointer (some ⟨Eb, 2, none⟩))
              have f611_95 := f610_95.ne (n := 96) (by decide) (.pointer (some ⟨Eb, 2, none⟩))
              have f611_96 := At.put (a := a610) (n := 96) (by rw [S610.1, hsN]; decide) (.pointer (some ⟨Eb, 2, none⟩))
              have S611 := S610.put (n := 96) (by decide) (by decide) (.pointer (some ⟨Eb, 2, none⟩))
              generalize a610.put (some 96) (.pointer (some ⟨Eb, 2, none⟩)) = a611 at S611 f611_2 f611_3 f611_4 f611_8 f611_10 f611_12 f611_13 f611_15 f611_16 f611_17 f611_18 f611_91 f611_93 f611_95 f611_96 ⊢
              refine still_val (v := (.int .i64 (((colL k).getD 2 0 : Nat) : Int))) rfl (ex_loadI rfl f611_96.eval e2) ?_
              show wpStill _ _ _ _ _ (a611.put (some 97) (.int .i64 (((colL k).getD 2 0 : Nat) : Int)))
              have f612_2 := f611_2.ne (n := 97) (by decide) (.int .i64 (((colL k).getD 2 0 : Nat) : Int))
              have f612_3 := f611_3.ne (n := 97) (by decide) (.int .i64 (((colL k).getD 2 0 : Nat) : Int))
              have f612_4 := f611_4.ne (n := 97) (by decide) (.int .i64 (((colL k).getD 2 0 : Nat) : Int))
              have f612_8 := f611_8.ne (n := 97) (by decide) (.int .i64 (((colL k).getD 2 0 : Nat) : Int))
              have f612_10 := f611_10.ne (n := 97) (by decide) (.int .i64 (((colL k).getD 2 0 : Nat) : Int))
              have f612_12 := f611_12.ne (n := 97) (by decide) (.int .i64 (((colL k).getD 2 0 : Nat) : Int))
              have f612_13 := f611_13.ne (n := 97) (by decide) (.int .i64 (((colL k).getD 2 0 : Nat) : Int))
              have f612_15 := f611_15.ne (n := 97) (by decide) (.int .i64 (((colL k).getD 2 0 : Nat) : Int))
              have f612_16 := f611_16.ne (n := 97) (by decide) (.int .i64 (((colL k).getD 2 0 : Nat) : Int))
              have f612_17 := f611_17.ne (n := 97) (by decide) (.int .i64 (((colL k).getD 2 0 : Nat) : Int))
              have f612_18 := f611_18.ne (n := 97) (by decide) (.int .i64 (((colL k).getD 2 0 : Nat) : Int))
              have f612_91 := f611_91.ne (n := 97) (by decide) (.int .i64 (((colL k).getD 2 0 : Nat) : Int))
              have f612_93 := f611_93.ne (n := 97) (by decide) (.int .i64 (((colL k).getD 2 0 : Nat) : Int))
              have f612_95 := f611_95.ne (n := 97) (by decide) (.int .i64 (((colL k).getD 2 0 : Nat) : Int))
              have f612_97 := At.put (a := a611) (n := 97) (by rw [S611.1, hsN]; decide) (.int .i64 (((colL k).getD 2 0 : Nat) : Int))
              have S612 := S611.put (n := 97) (by decide) (by decide) (.int .i64 (((colL k).getD 2 0 : Nat) : Int))
              generalize a611.put (some 97) (.int .i64 (((colL k).getD 2 0 : Nat) : Int)) = a612 at S612 f612_2 f612_3 f612_4 f612_8 f612_10 f612_12 f612_13 f612_15 f612_16 f612_17 f612_18 f612_91 f612_93 f612_95 f612_97 ⊢
              refine still_val (v := (.pointer (some ⟨Eb, 3, none⟩))) rfl (ex_idx4 rfl f612_18.eval rfl (by decide : 3 < 4) _) ?_
              show wpStill _ _ _ _ _ (a612.put (some 98) (.pointer (some ⟨Eb, 3, none⟩)))
              have f613_2 := f612_2.ne (n := 98) (by decide) (.pointer (some ⟨Eb, 3, none⟩))
              have f613_3 := f612_3.ne (n := 98) (by decide) (.pointer (some ⟨Eb, 3, none⟩))
              have f613_4 := f612_4.ne (n := 98) (by decide) (.pointer (some ⟨Eb, 3, none⟩))
              have f613_8 := f612_8.ne (n := 98) (by decide) (.pointer (some ⟨Eb, 3, none⟩))
              have f613_10 := f612_10.ne (n := 98) (by decide) (.pointer (some ⟨Eb, 3, none⟩))
              have f613_12 := f612_12.ne (n := 98) (by decide) (.pointer (some ⟨Eb, 3, none⟩))
              have f613_13 := f612_13.ne (n := 98) (by decide) (.pointer (some ⟨Eb, 3, none⟩))
              have f613_15 := f612_15.ne (n := 98) (by decide) (.pointer (some ⟨Eb, 3, none⟩))
              have f613_16 := f612_16.ne (n := 98) (by decide) (.pointer (some ⟨Eb, 3, none⟩))
              have f613_17 := f612_17.ne (n := 98) (by decide) (.pointer (some ⟨Eb, 3, none⟩))
              have f613_18 := f612_18.ne (n := 98) (by decide) (.pointer (some ⟨Eb, 3, none⟩))
              have f613_91 := f612_91.ne (n := 98) (by decide) (.pointer (some ⟨Eb, 3, none⟩))
              have f613_93 := f612_93.ne (n := 98) (by decide) (.pointer (some ⟨Eb, 3, none⟩))
              have f613_95 := f612_95.ne (n := 98) (by decide) (.pointer (some ⟨Eb, 3, none⟩))
              have f613_97 := f612_97.ne (n := 98) (by decide) (.pointer (some ⟨Eb, 3, none⟩))
              have f613_98 := At.put (a := a612) (n := 98) (by rw [S612.1, hsN]; decide) (.pointer (some ⟨Eb, 3, none⟩))
              have S613 := S612.put (n := 98) (by decide) (by decide) (.pointer (some ⟨Eb, 3, none⟩))
              generalize a612.put (some 98) (.pointer (some ⟨Eb, 3, none⟩)) = a613 at S613 f613_2 f613_3 f613_4 f613_8 f613_10 f613_12 f613_13 f613_15 f613_16 f613_17 f613_18 f613_91 f613_93 f613_95 f613_97 f613_98 ⊢
              refine still_val (v := (.int .i64 (((colL k).getD 3 0 : Nat) : Int))) rfl (ex_loadI rfl f613_98.eval e3) ?_
              show wpStill _ _ _ _ _ (a613.put (some 99) (.int .i64 (((colL k).getD 3 0 : Nat) : Int)))
              have f614_2 := f613_2.ne (n := 99) (by decide) (.int .i64 (((colL k).getD 3 0 : Nat) : Int))
              have f614_3 := f613_3.ne (n := 99) (by decide) (.int .i64 (((colL k).getD 3 0 : Nat) : Int))
              have f614_4 := f613_4.ne (n := 99) (by decide) (.int .i64 (((colL k).getD 3 0 : Nat) : Int))
              have f614_8 := f613_8.ne (n := 99) (by decide) (.int .i64 (((colL k).getD 3 0 : Nat) : Int))
              have f614_10 := f613_10.ne (n := 99) (by decide) (.int .i64 (((colL k).getD 3 0 : Nat) : Int))
              have f614_12 := f613_12.ne (n := 99) (by decide) (.int .i64 (((colL k).getD 3 0 : Nat) : Int))
              have f614_13 := f613_13.ne (n := 99) (by decide) (.int .i64 (((colL k).getD 3 0 : Nat) : Int))
              have f614_15 := f613_15.ne (n := 99) (by decide) (.int .i64 (((colL k).getD 3 0 : Nat) : Int))
              have f614_16 := f613_16.ne (n := 99) (by decide) (.int .i64 (((colL k).getD 3 0 : Nat) : Int))
              have f614_17 := f613_17.ne (n := 99) (by decide) (.int .i64 (((colL k).getD 3 0 : Nat) : Int))
              have f614_18 := f613_18.ne (n := 99) (by decide) (.int .i64 (((colL k).getD 3 0 : Nat) : Int))
              have f614_91 := f613_91.ne (n := 99) (by decide) (.int .i64 (((colL k).getD 3 0 : Nat) : Int))
              have f614_93 := f613_93.ne (n := 99) (by decide) (.int .i64 (((colL k).getD 3 0 : Nat) : Int))
              have f614_95 := f613_95.ne (n := 99) (by decide) (.int .i64 (((colL k).getD 3 0 : Nat) : Int))
              have f614_97 := f613_97.ne (n := 99) (by decide) (.int .i64 (((colL k).getD 3 0 : Nat) : Int))
              have f614_99 := At.put (a := a613) (n := 99) (by rw [S613.1, hsN]; decide) (.int .i64 (((colL k).getD 3 0 : Nat) : Int))
              have S614 := S613.put (n := 99) (by decide) (by decide) (.int .i64 (((colL k).getD 3 0 : Nat) : Int))
              generalize a613.put (some 99) (.int .i64 (((colL k).getD 3 0 : Nat) : Int)) = a614 at S614 f614_2 f614_3 f614_4 f614_8 f614_10 f614_12 f614_13 f614_15 f614_16 f614_17 f614_18 f614_91 f614_93 f614_95 f614_97 f614_99 ⊢
              refine still_val (v := (.string ⟨(permS r).toArray⟩)) rfl (ex_move rfl f614_16.eval _) ?_
              show wpStill _ _ _ _ _ (a614.put (some 100) (.string ⟨(permS r).toArray⟩))
              have f615_2 := f614_2.ne (n := 100) (by decide) (.string ⟨(permS r).toArray⟩)
              have f615_3 := f614_3.ne (n := 100) (by decide) (.string ⟨(permS r).toArray⟩)
              have f615_4 := f614_4.ne (n := 100) (by decide) (.string ⟨(permS r).toArray⟩)
              have f615_8 := f614_8.ne (n := 100) (by decide) (.string ⟨(permS r).toArray⟩)
              have f615_10 := f614_10.ne (n := 100) (by decide) (.string ⟨(permS r).toArray⟩)
              have f615_12 := f614_12.ne (n := 100) (by decide) (.string ⟨(permS r).toArray⟩)
              have f615_13 := f614_13.ne (n := 100) (by decide) (.string ⟨(permS r).toArray⟩)
              have f615_15 := f614_15.ne (n := 100) (by decide) (.string ⟨(permS r).toArray⟩)
              have f615_16 := f614_16.ne (n := 100) (by decide) (.string ⟨(permS r).toArray⟩)
              have f615_17 := f614_17.ne (n := 100) (by decide) (.string ⟨(permS r).toArray⟩)
              have f615_18 := f614_18.ne (n := 100) (by decide) (.string ⟨(permS r).toArray⟩)
              have f615_91 := f614_91.ne (n := 100) (by decide) (.string ⟨(permS r).toArray⟩)
              have f615_93 := f614_93.ne (n := 100) (by decide) (.string ⟨(permS r).toArray⟩)
              have f615_95 := f614_95.ne (n := 100) (by decide) (.string ⟨(permS r).toArray⟩)
              have f615_97 := f614_97.ne (n := 100) (by decide) (.string ⟨(permS r).toArray⟩)
              have f615_99 := f614_99.ne (n := 100) (by decide) (.string ⟨(permS r).toArray⟩)
              have f615_100 := At.put (a := a614) (n := 100) (by rw [S614.1, hsN]; decide) (.string ⟨(permS r).toArray⟩)
              have S615 := S614.put (n := 100) (by decide) (by decide) (.string ⟨(permS r).toArray⟩)
              generalize a614.put (some 100) (.string ⟨(permS r).toArray⟩) = a615 at S615 f615_2 f615_3 f615_4 f615_8 f615_10 f615_12 f615_13 f615_15 f615_16 f615_17 f615_18 f615_91 f615_93 f615_95 f615_97 f615_99 f615_100 ⊢
              refine still_val (v := (.int .i64 (k : Int))) rfl (ex_move rfl f615_17.eval _) ?_
              show wpStill _ _ _ _ _ (a615.put (some 101) (.int .i64 (k : Int)))
              have f616_2 := f615_2.ne (n := 101) (by decide) (.int .i64 (k : Int))
              have f616_3 := f615_3.ne (n := 101) (by decide) (.int .i64 (k : Int))
              have f616_4 := f615_4.ne (n := 101) (by decide) (.int .i64 (k : Int))
              have f616_8 := f615_8.ne (n := 101) (by decide) (.int .i64 (k : Int))
              have f616_10 := f615_10.ne (n := 101) (by decide) (.int .i64 (k : Int))
              have f616_12 := f615_12.ne (n := 101) (by decide) (.int .i64 (k : Int))
              have f616_13 := f615_13.ne (n := 101) (by decide) (.int .i64 (k : Int))
              have f616_15 := f615_15.ne (n := 101) (by decide) (.int .i64 (k : Int))
              have f616_16 := f615_16.ne (n := 101) (by decide) (.int .i64 (k : Int))
              have f616_17 := f615_17.ne (n := 101) (by decide) (.int .i64 (k : Int))
              have f616_18 := f615_18.ne (n := 101) (by decide) (.int .i64 (k : Int))
              have f616_91 := f615_91.ne (n := 101) (by decide) (.int .i64 (k : Int))
              have f616_93 := f615_93.ne (n := 101) (by decide) (.int .i64 (k : Int))
              have f616_95 := f615_95.ne (n := 101) (by decide) (.int .i64 (k : Int))
              have f616_97 := f615_97.ne (n := 101) (by decide) (.int .i64 (k : Int))
              have f616_99 := f615_99.ne (n := 101) (by decide) (.int .i64 (k : Int))
              have f616_100 := f615_100.ne (n := 101) (by decide) (.int .i64 (k : Int))
              have f616_101 := At.put (a := a615) (n := 101) (by rw [S615.1, hsN]; decide) (.int .i64 (k : Int))
              have S616 := S615.put (n := 101) (by decide) (by decide) (.int .i64 (k : Int))
              generalize a615.put (some 101) (.int .i64 (k : Int)) = a616 at S616 f616_2 f616_3 f616_4 f616_8 f616_10 f616_12 f616_13 f616_15 f616_16 f616_17 f616_18 f616_91 f616_93 f616_95 f616_97 f616_99 f616_100 f616_101 ⊢
              refine still_val (v := (.int .i64 ((2 * k : Nat) : Int))) rfl (ex_mulc (c := 2) rfl f616_101 (by omega) (by omega) _) ?_
              show wpStill _ _ _ _ _ (a616.put (some 102) (.int .i64 ((2 * k : Nat) : Int)))
              have f617_2 := f616_2.ne (n := 102) (by decide) (.int .i64 ((2 * k : Nat) : Int))
              have f617_3 := f616_3.ne (n := 102) (by decide) (.int .i64 ((2 * k : Nat) : Int))
              have f617_4 := f616_4.ne (n := 102) (by decide) (.int .i64 ((2 * k : Nat) : Int))
              have f617_8 := f616_8.ne (n := 102) (by decide) (.int .i64 ((2 * k : Nat) : Int))
              have f617_10 := f616_10.ne (n := 102) (by decide) (.int .i64 ((2 * k : Nat) : Int))
              have f617_12 := f616_12.ne (n := 102) (by decide) (.int .i64 ((2 * k : Nat) : Int))
              have f617_13 := f616_13.ne (n := 102) (by decide) (.int .i64 ((2 * k : Nat) : Int))
              have f617_15 := f616_15.ne (n := 102) (by decide) (.int .i64 ((2 * k : Nat) : Int))
              have f617_16 := f616_16.ne (n := 102) (by decide) (.int .i64 ((2 * k : Nat) : Int))
              have f617_17 := f616_17.ne (n := 102) (by decide) (.int .i64 ((2 * k : Nat) : Int))
              have f617_18 := f616_18.ne (n := 102) (by decide) (.int .i64 ((2 * k : Nat) : Int))
              have f617_91 := f616_91.ne (n := 102) (by decide) (.int .i64 ((2 * k : Nat) : Int))
              have f617_93 := f616_93.ne (n := 102) (by decide) (.int .i64 ((2 * k : Nat) : Int))
              have f617_95 := f616_95.ne (n := 102) (by decide) (.int .i64 ((2 * k : Nat) : Int))
              have f617_97 := f616_97.ne (n := 102) (by decide) (.int .i64 ((2 * k : Nat) : Int))
              have f617_99 := f616_99.ne (n := 102) (by decide) (.int .i64 ((2 * k : Nat) : Int))
              have f617_100 := f616_100.ne (n := 102) (by decide) (.int .i64 ((2 * k : Nat) : Int))
              have f617_102 := At.put (a := a616) (n := 102) (by rw [S616.1, hsN]; decide) (.int .i64 ((2 * k : Nat) : Int))
              have S617 := S616.put (n := 102) (by decide) (by decide) (.int .i64 ((2 * k : Nat) : Int))
              generalize a616.put (some 102) (.int .i64 ((2 * k : Nat) : Int)) = a617 at S617 f617_2 f617_3 f617_4 f617_8 f617_10 f617_12 f617_13 f617_15 f617_16 f617_17 f617_18 f617_91 f617_93 f617_95 f617_97 f617_99 f617_100 f617_102 ⊢
              refine still_val (v := (.int .u8 (((permS r).getD (2 * k) 0).toNat : Int))) rfl (by rw [← hg0]; exact ex_idxS rfl f617_100 f617_102 (by omega) _) ?_
              show wpStill _ _ _ _ _ (a617.put (some 103) (.int .u8 (((permS r).getD (2 * k) 0).toNat : Int)))
              have f618_2 := f617_2.ne (n := 103) (by decide) (.int .u8 (((permS r).getD (2 * k) 0).toNat : Int))
              have f618_3 := f617_3.ne (n := 103) (by decide) (.int .u8 (((permS r).getD (2 * k) 0).toNat : Int))
              have f618_4 := f617_4.ne (n := 103) (by decide) (.int .u8 (((permS r).getD (2 * k) 0).toNat : Int))
              have f618_8 := f617_8.ne (n := 103) (by decide) (.int .u8 (((permS r).getD (2 * k) 0).toNat : Int))
              have f618_10 := f617_10.ne (n := 103) (by decide) (.int .u8 (((permS r).getD (2 * k) 0).toNat : Int))
              have f618_12 := f617_12.ne (n := 103) (by decide) (.int .u8 (((permS r).getD (2 * k) 0).toNat : Int))
              have f618_13 := f617_13.ne (n := 103) (by decide) (.int .u8 (((permS r).getD (2 * k) 0).toNat : Int))
              have f618_15 := f617_15.ne (n := 103) (by decide) (.int .u8 (((permS r).getD (2 * k) 0).toNat : Int))
              have f618_16 := f617_16.ne (n := 103) (by decide) (.int .u8 (((permS r).getD (2 * k) 0).toNat : Int))
              have f618_17 := f617_17.ne (n := 103) (by decide) (.int .u8 (((permS r).getD (2 * k) 0).toNat : Int))
              have f618_18 := f617_18.ne (n := 103) (by decide) (.int .u8 (((permS r).getD (2 * k) 0).toNat : Int))
              have f618_91 := f617_91.ne (n := 103) (by decide) (.int .u8 (((permS r).getD (2 * k) 0).toNat : Int))
              have f618_93 := f617_93.ne (n := 103) (by decide) (.int .u8 (((permS r).getD (2 * k) 0).toNat : Int))
              have f618_95 := f617_95.ne (n := 103) (by decide) (.int .u8 (((permS r).getD (2 * k) 0).toNat : Int))
              have f618_97 := f617_97.ne (n := 103) (by decide) (.int .u8 (((permS r).getD (2 * k) 0).toNat : Int))
              have f618_99 := f617_99.ne (n := 103) (by decide) (.int .u8 (((permS r).getD (2 * k) 0).toNat : Int))
              have f618_103 := At.put (a := a617) (n := 103) (by rw [S617.1, hsN]; decide) (.int .u8 (((permS r).getD (2 * k) 0).toNat : Int))
              have S618 := S617.put (n := 103) (by decide) (by decide) (.int .u8 (((permS r).getD (2 * k) 0).toNat : Int))
              generalize a617.put (some 103) (.int .u8 (((permS r).getD (2 * k) 0).toNat : Int)) = a618 at S618 f618_2 f618_3 f618_4 f618_8 f618_10 f618_12 f618_13 f618_15 f618_16 f618_17 f618_18 f618_91 f618_93 f618_95 f618_97 f618_99 f618_103 ⊢
              refine still_enter (v := .int .i64 ((pm r (2 * k) : Nat) : Int)) rfl (ex_call1 ent_digit rfl f618_103 _) hd0 ?_
              show wpStill _ _ _ _ _ (a618.put (some 104) (.int .i64 ((pm r (2 * k) : Nat) : Int)))
              have f619_2 := f618_2.ne (n := 104) (by decide) (.int .i64 ((pm r (2 * k) : Nat) : Int))
              have f619_3 := f618_3.ne (n := 104) (by decide) (.int .i64 ((pm r (2 * k) : Nat) : Int))
              have f619_4 := f618_4.ne (n := 104) (by decide) (.int .i64 ((pm r (2 * k) : Nat) : Int))
              have f619_8 := f618_8.ne (n := 104) (by decide) (.int .i64 ((pm r (2 * k) : Nat) : Int))
              have f619_10 := f618_10.ne (n := 104) (by decide) (.int .i64 ((pm r (2 * k) : Nat) : Int))
              have f619_12 := f618_12.ne (n := 104) (by decide) (.int .i64 ((pm r (2 * k) : Nat) : Int))
              have f619_13 := f618_13.ne (n := 104) (by decide) (.int .i64 ((pm r (2 * k) : Nat) : Int))
              have f619_15 := f618_15.ne (n := 104) (by decide) (.int .i64 ((pm r (2 * k) : Nat) : Int))
              have f619_16 := f618_16.ne (n := 104) (by decide) (.int .i64 ((pm r (2 * k) : Nat) : Int))
              have f619_17 := f618_17.ne (n := 104) (by decide) (.int .i64 ((pm r (2 * k) : Nat) : Int))
              have f619_18 := f618_18.ne (n := 104) (by decide) (.int .i64 ((pm r (2 * k) : Nat) : Int))
              have f619_91 := f618_91.ne (n := 104) (by decide) (.int .i64 ((pm r (2 * k) : Nat) : Int))
              have f619_93 := f618_93.ne (n := 104) (by decide) (.int .i64 ((pm r (2 * k) : Nat) : Int))
              have f619_95 := f618_95.ne (n := 104) (by decide) (.int .i64 ((pm r (2 * k) : Nat) : Int))
              have f619_97 := f618_97.ne (n := 104) (by decide) (.int .i64 ((pm r (2 * k) : Nat) : Int))
              have f619_99 := f618_99.ne (n := 104) (by decide) (.int .i64 ((pm r (2 * k) : Nat) : Int))
              have f619_104 := At.put (a := a618) (n := 104) (by rw [S618.1, hsN]; decide) (.int .i64 ((pm r (2 * k) : Nat) : Int))
              have S619 := S618.put (n := 104) (by decide) (by decide) (.int .i64 ((pm r (2 * k) : Nat) : Int))
              generalize a618.put (some 104) (.int .i64 ((pm r (2 * k) : Nat) : Int)) = a619 at S619 f619_2 f619_3 f619_4 f619_8 f619_10 f619_12 f619_13 f619_15 f619_16 f619_17 f619_18 f619_91 f619_93 f619_95 f619_97 f619_99 f619_104 ⊢
              refine still_val (v := (.pointer (some ⟨G + 1 + 1, pm r (2 * k), none⟩))) rfl (ex_idx16 rfl f619_10.eval f619_104.eval hm0 _) ?_
              show wpStill _ _ _ _ _ (a619.put (some 105) (.pointer (some ⟨G + 1 + 1, pm r (2 * k), none⟩)))
              have f620_2 := f619_2.ne (n := 105) (by decide) (.pointer (some ⟨G + 1 + 1, pm r (2 * k), none⟩))
              have f620_3 := f619_3.ne (n := 105) (by decide) (.pointer (some ⟨G + 1 + 1, pm r (2 * k), none⟩))
              have f620_4 := f619_4.ne (n := 105) (by decide) (.pointer (some ⟨G + 1 + 1, pm r (2 * k), none⟩))
              have f620_8 := f619_8.ne (n := 105) (by decide) (.pointer (some ⟨G + 1 + 1, pm r (2 * k), none⟩))
              have f620_10 := f619_10.ne (n := 105) (by decide) (.pointer (some ⟨G + 1 + 1, pm r (2 * k), none⟩))
              have f620_12 := f619_12.ne (n := 105) (by decide) (.pointer (some ⟨G + 1 + 1, pm r (2 * k), none⟩))
              have f620_13 := f619_13.ne (n := 105) (by decide) (.pointer (some ⟨G + 1 + 1, pm r (2 * k), none⟩))
              have f620_15 := f619_15.ne (n := 105) (by decide) (.pointer (some ⟨G + 1 + 1, pm r (2 * k), none⟩))
              have f620_16 := f619_16.ne (n := 105) (by decide) (.pointer (some ⟨G + 1 + 1, pm r (2 * k), none⟩))
              have f620_17 := f619_17.ne (n := 105) (by decide) (.pointer (some ⟨G + 1 + 1, pm r (2 * k), none⟩))
              have f620_18 := f619_18.ne (n := 105) (by decide) (.pointer (some ⟨G + 1 + 1, pm r (2 * k), none⟩))
              have f620_91 := f619_91.ne (n := 105) (by decide) (.pointer (some ⟨G + 1 + 1, pm r (2 * k), none⟩))
              have f620_93 := f619_93.ne (n := 105) (by decide) (.pointer (some ⟨G + 1 + 1, pm r (2 * k), none⟩))
              have f620_95 := f619_95.ne (n := 105) (by decide) (.pointer (some ⟨G + 1 + 1, pm r (2 * k), none⟩))
              have f620_97 := f619_97.ne (n := 105) (by decide) (.pointer (some ⟨G + 1 + 1, pm r (2 * k), none⟩))
              have f620_99 := f619_99.ne (n := 105) (by decide) (.pointer (some ⟨G + 1 + 1, pm r (2 * k), none⟩))
              have f620_105 := At.put (a := a619) (n := 105) (by rw [S619.1, hsN]; decide) (.pointer (some ⟨G + 1 + 1, pm r (2 * k), none⟩))
              have S620 := S619.put (n := 105) (by decide) (by decide) (.pointer (some ⟨G + 1 + 1, pm r (2 * k), none⟩))
              generalize a619.put (some 105) (.pointer (some ⟨G + 1 + 1, pm r (2 * k), none⟩)) = a620 at S620 f620_2 f620_3 f620_4 f620_8 f620_10 f620_12 f620_13 f620_15 f620_16 f620_17 f620_18 f620_91 f620_93 f620_95 f620_97 f620_99 f620_105 ⊢
              refine still_val (v := (wv (g m (pm r (2 * k))))) rfl (ex_load32 rfl f620_105.eval e4) ?_
              show wpStill _ _ _ _ _ (a620.put (some 106) (wv (g m (pm r (2 * k)))))
              have f621_2 := f620_2.ne (n := 106) (by decide) (wv (g m (pm r (2 * k))))
              have f621_3 := f620_3.ne (n := 106) (by decide) (wv (g m (pm r (2 * k))))
              have f621_4 := f620_4.ne (n := 106) (by decide) (wv (g m (pm r (2 * k))))
              have f621_8 := f620_8.ne (n := 106) (by decide) (wv (g m (pm r (2 * k))))
              have f621_10 := f620_10.ne (n := 106) (by decide) (wv (g m (pm r (2 * k))))
              have f621_12 := f620_12.ne (n := 106) (by decide) (wv (g m (pm r (2 * k))))
              have f621_13 := f620_13.ne (n := 106) (by decide) (wv (g m (pm r (2 * k))))
              have f621_15 := f620_15.ne (n := 106) (by decide) (wv (g m (pm r (2 * k))))
              have f621_16 := f620_16.ne (n := 106) (by decide) (wv (g m (pm r (2 * k))))
              have f621_17 := f620_17.ne (n := 106) (by decide) (wv (g m (pm r (2 * k))))
              have f621_18 := f620_18.ne (n := 106) (by decide) (wv (g m (pm r (2 * k))))
              have f621_91 := f620_91.ne (n := 106) (by decide) (wv (g m (pm r (2 * k))))
              have f621_93 := f620_93.ne (n := 106) (by decide) (wv (g m (pm r (2 * k))))
              have f621_95 := f620_95.ne (n := 106) (by decide) (wv (g m (pm r (2 * k))))
              have f621_97 := f620_97.ne (n := 106) (by decide) (wv (g m (pm r (2 * k))))
              have f621_99 := f620_99.ne (n := 106) (by decide) (wv (g m (pm r (2 * k))))
              have f621_106 := At.put (a := a620) (n := 106) (by rw [S620.1, hsN]; decide) (wv (g m (pm r (2 * k))))
              have S621 := S620.put (n := 106) (by decide) (by decide) (wv (g m (pm r (2 * k))))
              generalize a620.put (some 106) (wv (g m (pm r (2 * k)))) = a621 at S621 f621_2 f621_3 f621_4 f621_8 f621_10 f621_12 f621_13 f621_15 f621_16 f621_17 f621_18 f621_91 f621_93 f621_95 f621_97 f621_99 f621_106 ⊢
              refine still_val (v := (.string ⟨(permS r).toArray⟩)) rfl (ex_move rfl f621_16.eval _) ?_
              show wpStill _ _ _ _ _ (a621.put (some 107) (.string ⟨(permS r).toArray⟩))
              have f622_2 := f621_2.ne (n := 107) (by decide) (.string ⟨(permS r).toArray⟩)
              have f622_3 := f621_3.ne (n := 107) (by decide) (.string ⟨(permS r).toArray⟩)
              have f622_4 := f621_4.ne (n := 107) (by decide) (.string ⟨(permS r).toArray⟩)
              have f622_8 := f621_8.ne (n := 107) (by decide) (.string ⟨(permS r).toArray⟩)
              have f622_10 := f621_10.ne (n := 107) (by decide) (.string ⟨(permS r).toArray⟩)
              have f622_12 := f621_12.ne (n := 107) (by decide) (.string ⟨(permS r).toArray⟩)
              have f622_13 := f621_13.ne (n := 107) (by decide) (.string ⟨(permS r).toArray⟩)
              have f622_15 := f621_15.ne (n := 107) (by decide) (.string ⟨(permS r).toArray⟩)
              have f622_16 := f621_16.ne (n := 107) (by decide) (.string ⟨(permS r).toArray⟩)
              have f622_17 := f621_17.ne (n := 107) (by decide) (.string ⟨(permS r).toArray⟩)
              have f622_18 := f621_18.ne (n := 107) (by decide) (.string ⟨(permS r).toArray⟩)
              have f622_91 := f621_91.ne (n := 107) (by decide) (.string ⟨(permS r).toArray⟩)
              have f622_93 := f621_93.ne (n := 107) (by decide) (.string ⟨(permS r).toArray⟩)
              have f622_95 := f621_95.ne (n := 107) (by decide) (.string ⟨(permS r).toArray⟩)
              have f622_97 := f621_97.ne (n := 107) (by decide) (.string ⟨(permS r).toArray⟩)
              have f622_99 := f621_99.ne (n := 107) (by decide) (.string ⟨(permS r).toArray⟩)
              have f622_106 := f621_106.ne (n := 107) (by decide) (.string ⟨(permS r).toArray⟩)
              have f622_107 := At.put (a := a621) (n := 107) (by rw [S621.1, hsN]; decide) (.string ⟨(permS r).toArray⟩)
              have S622 := S621.put (n := 107) (by decide) (by decide) (.string ⟨(permS r).toArray⟩)
              generalize a621.put (some 107) (.string ⟨(permS r).toArray⟩) = a622 at S622 f622_2 f622_3 f622_4 f622_8 f622_10 f622_12 f622_13 f622_15 f622_16 f622_17 f622_18 f622_91 f622_93 f622_95 f622_97 f622_99 f622_106 f622_107 ⊢
              refine still_val (v := (.int .i64 (k : Int))) rfl (ex_move rfl f622_17.eval _) ?_
              show wpStill _ _ _ _ _ (a622.put (some 108) (.int .i64 (k : Int)))
              have f623_2 := f622_2.ne (n := 108) (by decide) (.int .i64 (k : Int))
              have f623_3 := f622_3.ne (n := 108) (by decide) (.int .i64 (k : Int))
              have f623_4 := f622_4.ne (n := 108) (by decide) (.int .i64 (k : Int))
              have f623_8 := f622_8.ne (n := 108) (by decide) (.int .i64 (k : Int))
              have f623_10 := f622_10.ne (n := 108) (by decide) (.int .i64 (k : Int))
              have f623_12 := f622_12.ne (n := 108) (by decide) (.int .i64 (k : Int))
              have f623_13 := f622_13.ne (n := 108) (by decide) (.int .i64 (k : Int))
              have f623_15 := f622_15.ne (n := 108) (by decide) (.int .i64 (k : Int))
              have f623_16 := f622_16.ne (n := 108) (by decide) (.int .i64 (k : Int))
              have f623_17 := f622_17.ne (n := 108) (by decide) (.int .i64 (k : Int))
              have f623_18 := f622_18.ne (n := 108) (by decide) (.int .i64 (k : Int))
              have f623_91 := f622_91.ne (n := 108) (by decide) (.int .i64 (k : Int))
              have f623_93 := f622_93.ne (n := 108) (by decide) (.int .i64 (k : Int))
              have f623_95 := f622_95.ne (n := 108) (by decide) (.int .i64 (k : Int))
              have f623_97 := f622_97.ne (n := 108) (by decide) (.int .i64 (k : Int))
              have f623_99 := f622_99.ne (n := 108) (by decide) (.int .i64 (k : Int))
              have f623_106 := f622_106.ne (n := 108) (by decide) (.int .i64 (k : Int))
              have f623_107 := f622_107.ne (n := 108) (by decide) (.int .i64 (k : Int))
              have f623_108 := At.put (a := a622) (n := 108) (by rw [S622.1, hsN]; decide) (.int .i64 (k : Int))
              have S623 := S622.put (n := 108) (by decide) (by decide) (.int .i64 (k : Int))
              generalize a622.put (some 108) (.int .i64 (k : Int)) = a623 at S623 f623_2 f623_3 f623_4 f623_8 f623_10 f623_12 f623_13 f623_15 f623_16 f623_17 f623_18 f623_91 f623_93 f623_95 f623_97 f623_99 f623_106 f623_107 f623_108 ⊢
              refine still_val (v := (.int .i64 ((2 * k : Nat) : Int))) rfl (ex_mulc (c := 2) rfl f623_108 (by omega) (by omega) _) ?_
              show wpStill _ _ _ _ _ (a623.put (some 109) (.int .i64 ((2 * k : Nat) : Int)))
              have f624_2 := f623_2.ne (n := 109) (by decide) (.int .i64 ((2 * k : Nat) : Int))
              have f624_3 := f623_3.ne (n := 109) (by decide) (.int .i64 ((2 * k : Nat) : Int))
              have f624_4 := f623_4.ne (n := 109) (by decide) (.int .i64 ((2 * k : Nat) : Int))
              have f624_8 := f623_8.ne (n := 109) (by decide) (.int .i64 ((2 * k : Nat) : Int))
              have f624_10 := f623_10.ne (n := 109) (by decide) (.int .i64 ((2 * k : Nat) : Int))
              have f624_12 := f623_12.ne (n := 109) (by decide) (.int .i64 ((2 * k : Nat) : Int))
              have f624_13 := f623_13.ne (n := 109) (by decide) (.int .i64 ((2 * k : Nat) : Int))
              have f624_15 := f623_15.ne (n := 109) (by decide) (.int .i64 ((2 * k : Nat) : Int))
              have f624_16 := f623_16.ne (n := 109) (by decide) (.int .i64 ((2 * k : Nat) : Int))
              have f624_17 := f623_17.ne (n := 109) (by decide) (.int .i64 ((2 * k : Nat) : Int))
              have f624_18 := f623_18.ne (n := 109) (by decide) (.int .i64 ((2 * k : Nat) : Int))
              have f624_91 := f623_91.ne (n := 109) (by decide) (.int .i64 ((2 * k : Nat) : Int))
              have f624_93 := f623_93.ne (n := 109) (by decide) (.int .i64 ((2 * k : Nat) : Int))
              have f624_95 := f623_95.ne (n := 109) (by decide) (.int .i64 ((2 * k : Nat) : Int))
              have f624_97 := f623_97.ne (n := 109) (by decide) (.int .i64 ((2 * k : Nat) : Int))
              have f624_99 := f623_99.ne (n := 109) (by decide) (.int .i64 ((2 * k : Nat) : Int))
              have f624_106 := f623_106.ne (n := 109) (by decide) (.int .i64 ((2 * k : Nat) : Int))
              have f624_107 := f623_107.ne (n := 109) (by decide) (.int .i64 ((2 * k : Nat) : Int))
              have f624_109 := At.put (a := a623) (n := 109) (by rw [S623.1, hsN]; decide) (.int .i64 ((2 * k : Nat) : Int))
              have S624 := S623.put (n := 109) (by decide) (by decide) (.int .i64 ((2 * k : Nat) : Int))
              generalize a623.put (some 109) (.int .i64 ((2 * k : Nat) : Int)) = a624 at S624 f624_2 f624_3 f624_4 f624_8 f624_10 f624_12 f624_13 f624_15 f624_16 f624_17 f624_18 f624_91 f624_93 f624_95 f624_97 f624_99 f624_106 f624_107 f624_109 ⊢
              refine still_val (v := (.int .i64 ((2 * k + 1 : Nat) : Int))) rfl (ex_add (c := 1) rfl f624_109 (by omega) (by omega) _) ?_
              show wpStill _ _ _ _ _ (a624.put (some 110) (.int .i64 ((2 * k + 1 : Nat) : Int)))
              have f625_2 := f624_2.ne (n := 110) (by decide) (.int .i64 ((2 * k + 1 : Nat) : Int))
              have f625_3 := f624_3.ne (n := 110) (by decide) (.int .i64 ((2 * k + 1 : Nat) : Int))
              have f625_4 := f624_4.ne (n := 110) (by decide) (.int .i64 ((2 * k + 1 : Nat) : Int))
              have f625_8 := f624_8.ne (n := 110) (by decide) (.int .i64 ((2 * k + 1 : Nat) : Int))
              have f625_10 := f624_10.ne (n := 110) (by decide) (.int .i64 ((2 * k + 1 : Nat) : Int))
              have f625_12 := f624_12.ne (n := 110) (by decide) (.int .i64 ((2 * k + 1 : Nat) : Int))
              have f625_13 := f624_13.ne (n := 110) (by decide) (.int .i64 ((2 * k + 1 : Nat) : Int))
              have f625_15 := f624_15.ne (n := 110) (by decide) (.int .i64 ((2 * k + 1 : Nat) : Int))
              have f625_16 := f624_16.ne (n := 110) (by decide) (.int .i64 ((2 * k + 1 : Nat) : Int))
              have f625_17 := f624_17.ne (n := 110) (by decide) (.int .i64 ((2 * k + 1 : Nat) : Int))
              have f625_18 := f624_18.ne (n := 110) (by decide) (.int .i64 ((2 * k + 1 : Nat) : Int))
              have f625_91 := f624_91.ne (n := 110) (by decide) (.int .i64 ((2 * k + 1 : Nat) : Int))
              have f625_93 := f624_93.ne (n := 110) (by decide) (.int .i64 ((2 * k + 1 : Nat) : Int))
              have f625_95 := f624_95.ne (n := 110) (by decide) (.int .i64 ((2 * k + 1 : Nat) : Int))
              have f625_97 := f624_97.ne (n := 110) (by decide) (.int .i64 ((2 * k + 1 : Nat) : Int))
              have f625_99 := f624_99.ne (n := 110) (by decide) (.int .i64 ((2 * k + 1 : Nat) : Int))
              have f625_106 := f624_106.ne (n := 110) (by decide) (.int .i64 ((2 * k + 1 : Nat) : Int))
              have f625_107 := f624_107.ne (n := 110) (by decide) (.int .i64 ((2 * k + 1 : Nat) : Int))
              have f625_110 := At.put (a := a624) (n := 110) (by rw [S624.1, hsN]; decide) (.int .i64 ((2 * k + 1 : Nat) : Int))
              have S625 := S624.put (n := 110) (by decide) (by decide) (.int .i64 ((2 * k + 1 : Nat) : Int))
              generalize a624.put (some 110) (.int .i64 ((2 * k + 1 : Nat) : Int)) = a625 at S625 f625_2 f625_3 f625_4 f625_8 f625_10 f625_12 f625_13 f625_15 f625_16 f625_17 f625_18 f625_91 f625_93 f625_95 f625_97 f625_99 f625_106 f625_107 f625_110 ⊢
              refine still_val (v := (.int .u8 (((permS r).getD (2 * k + 1) 0).toNat : Int))) rfl (by rw [← hg1]; exact ex_idxS rfl f625_107 f625_110 (by omega) _) ?_
              show wpStill _ _ _ _ _ (a625.put (some 111) (.int .u8 (((permS r).getD (2 * k + 1) 0).toNat : Int)))
              have f626_2 := f625_2.ne (n := 111) (by decide) (.int .u8 (((permS r).getD (2 * k + 1) 0).toNat : Int))
              have f626_3 := f625_3.ne (n := 111) (by decide) (.int .u8 (((permS r).getD (2 * k + 1) 0).toNat : Int))
              have f626_4 := f625_4.ne (n := 111) (by decide) (.int .u8 (((permS r).getD (2 * k + 1) 0).toNat : Int))
              have f626_8 := f625_8.ne (n := 111) (by decide) (.int .u8 (((permS r).getD (2 * k + 1) 0).toNat : Int))
              have f626_10 := f625_10.ne (n := 111) (by decide) (.int .u8 (((permS r).getD (2 * k + 1) 0).toNat : Int))
              have f626_12 := f625_12.ne (n := 111) (by decide) (.int .u8 (((permS r).getD (2 * k + 1) 0).toNat : Int))
              have f626_13 := f625_13.ne (n := 111) (by decide) (.int .u8 (((permS r).getD (2 * k + 1) 0).toNat : Int))
              have f626_15 := f625_15.ne (n := 111) (by decide) (.int .u8 (((permS r).getD (2 * k + 1) 0).toNat : Int))
              have f626_16 := f625_16.ne (n := 111) (by decide) (.int .u8 (((permS r).getD (2 * k + 1) 0).toNat : Int))
              have f626_17 := f625_17.ne (n := 111) (by decide) (.int .u8 (((permS r).getD (2 * k + 1) 0).toNat : Int))
              have f626_18 := f625_18.ne (n := 111) (by decide) (.int .u8 (((permS r).getD (2 * k + 1) 0).toNat : Int))
              have f626_91 := f625_91.ne (n := 111) (by decide) (.int .u8 (((permS r).getD (2 * k + 1) 0).toNat : Int))
              have f626_93 := f625_93.ne (n := 111) (by decide) (.int .u8 (((permS r).getD (2 * k + 1) 0).toNat : Int))
              have f626_95 := f625_95.ne (n := 111) (by decide) (.int .u8 (((permS r).getD (2 * k + 1) 0).toNat : Int))
              have f626_97 := f625_97.ne (n := 111) (by decide) (.int .u8 (((permS r).getD (2 * k + 1) 0).toNat : Int))
              have f626_99 := f625_99.ne (n := 111) (by decide) (.int .u8 (((permS r).getD (2 * k + 1) 0).toNat : Int))
              have f626_106 := f625_106.ne (n := 111) (by decide) (.int .u8 (((permS r).getD (2 * k + 1) 0).toNat : Int))
              have f626_111 := At.put (a := a625) (n := 111) (by rw [S625.1, hsN]; decide) (.int .u8 (((permS r).getD (2 * k + 1) 0).toNat : Int))
              have S626 := S625.put (n := 111) (by decide) (by decide) (.int .u8 (((permS r).getD (2 * k + 1) 0).toNat : Int))
              generalize a625.put (some 111) (.int .u8 (((permS r).getD (2 * k + 1) 0).toNat : Int)) = a626 at S626 f626_2 f626_3 f626_4 f626_8 f626_10 f626_12 f626_13 f626_15 f626_16 f626_17 f626_18 f626_91 f626_93 f626_95 f626_97 f626_99 f626_106 f626_111 ⊢
              refine still_enter (v := .int .i64 ((pm r (2 * k + 1) : Nat) : Int)) rfl (ex_call1 ent_digit rfl f626_111 _) hd1 ?_
              show wpStill _ _ _ _ _ (a626.put (some 112) (.int .i64 ((pm r (2 * k + 1) : Nat) : Int)))
              have f627_2 := f626_2.ne (n := 112) (by decide) (.int .i64 ((pm r (2 * k + 1) : Nat) : Int))
              have f627_3 := f626_3.ne (n := 112) (by decide) (.int .i64 ((pm r (2 * k + 1) : Nat) : Int))
              have f627_4 := f626_4.ne (n := 112) (by decide) (.int .i64 ((pm r (2 * k + 1) : Nat) : Int))
              have f627_8 := f626_8.ne (n := 112) (by decide) (.int .i64 ((pm r (2 * k + 1) : Nat) : Int))
              have f627_10 := f626_10.ne (n := 112) (by decide) (.int .i64 ((pm r (2 * k + 1) : Nat) : Int))
              have f627_12 := f626_12.ne (n := 112) (by decide) (.int .i64 ((pm r (2 * k + 1) : Nat) : Int))
              have f627_13 := f626_13.ne (n := 112) (by decide) (.int .i64 ((pm r (2 * k + 1) : Nat) : Int))
              have f627_15 := f626_15.ne (n := 112) (by decide) (.int .i64 ((pm r (2 * k + 1) : Nat) : Int))
              have f627_16 := f626_16.ne (n := 112) (by decide) (.int .i64 ((pm r (2 * k + 1) : Nat) : Int))
              have f627_17 := f626_17.ne (n := 112) (by decide) (.int .i64 ((pm r (2 * k + 1) : Nat) : Int))
              have f627_18 := f626_18.ne (n := 112) (by decide) (.int .i64 ((pm r (2 * k + 1) : Nat) : Int))
              have f627_91 := f626_91.ne (n := 112) (by decide) (.int .i64 ((pm r (2 * k + 1) : Nat) : Int))
              have f627_93 := f626_93.ne (n := 112) (by decide) (.int .i64 ((pm r (2 * k + 1) : Nat) : Int))
              have f627_95 := f626_95.ne (n := 112) (by decide) (.int .i64 ((pm r (2 * k + 1) : Nat) : Int))
              have f627_97 := f626_97.ne (n := 112) (by decide) (.int .i64 ((pm r (2 * k + 1) : Nat) : Int))
              have f627_99 := f626_99.ne (n := 112) (by decide) (.int .i64 ((pm r (2 * k + 1) : Nat) : Int))
              have f627_106 := f626_106.ne (n := 112) (by decide) (.int .i64 ((pm r (2 * k + 1) : Nat) : Int))
              have f627_112 := At.put (a := a626) (n := 112) (by rw [S626.1, hsN]; decide) (.int .i64 ((pm r (2 * k + 1) : Nat) : Int))
              have S627 := S626.put (n := 112) (by decide) (by decide) (.int .i64 ((pm r (2 * k + 1) : Nat) : Int))
              generalize a626.put (some 112) (.int .i64 ((pm r (2 * k + 1) : Nat) : Int)) = a627 at S627 f627_2 f627_3 f627_4 f627_8 f627_10 f627_12 f627_13 f627_15 f627_16 f627_17 f627_18 f627_91 f627_93 f627_95 f627_97 f627_99 f627_106 f627_112 ⊢
              refine still_val (v := (.pointer (some ⟨G + 1 + 1, pm r (2 * k + 1), none⟩))) rfl (ex_idx16 rfl f627_10.eval f627_112.eval hm1 _) ?_
              show wpStill _ _ _ _ _ (a627.put (some 113) (.pointer (some ⟨G + 1 + 1, pm r (2 * k + 1), none⟩)))
              have f628_2 := f627_2.ne (n := 113) (by decide) (.pointer (some ⟨G + 1 + 1, pm r (2 * k + 1), none⟩))
              have f628_3 := f627_3.ne (n := 113) (by decide) (.pointer (some ⟨G + 1 + 1, pm r (2 * k + 1), none⟩))
              have f628_4 := f627_4.ne (n := 113) (by decide) (.pointer (some ⟨G + 1 + 1, pm r (2 * k + 1), none⟩))
              have f628_8 := f627_8.ne (n := 113) (by decide) (.pointer (some ⟨G + 1 + 1, pm r (2 * k + 1), none⟩))
              have f628_10 := f627_10.ne (n := 113) (by decide) (.pointer (some ⟨G + 1 + 1, pm r (2 * k + 1), none⟩))
              have f628_12 := f627_12.ne (n := 113) (by decide) (.pointer (some ⟨G + 1 + 1, pm r (2 * k + 1), none⟩))
              have f628_13 := f627_13.ne (n := 113) (by decide) (.pointer (some ⟨G + 1 + 1, pm r (2 * k + 1), none⟩))
              have f628_15 := f627_15.ne (n := 113) (by decide) (.pointer (some ⟨G + 1 + 1, pm r (2 * k + 1), none⟩))
              have f628_16 := f627_16.ne (n := 113) (by decide) (.pointer (some ⟨G + 1 + 1, pm r (2 * k + 1), none⟩))
              have f628_17 := f627_17.ne (n := 113) (by decide) (.pointer (some ⟨G + 1 + 1, pm r (2 * k + 1), none⟩))
              have f628_18 := f627_18.ne (n := 113) (by decide) (.pointer (some ⟨G + 1 + 1, pm r (2 * k + 1), none⟩))
              have f628_91 := f627_91.ne (n := 113) (by decide) (.pointer (some ⟨G + 1 + 1, pm r (2 * k + 1), none⟩))
              have f628_93 := f627_93.ne (n := 113) (by decide) (.pointer (some ⟨G + 1 + 1, pm r (2 * k + 1), none⟩))
              have f628_95 := f627_95.ne (n := 113) (by decide) (.pointer (some ⟨G + 1 + 1, pm r (2 * k + 1), none⟩))
              have f628_97 := f627_97.ne (n := 113) (by decide) (.pointer (some ⟨G + 1 + 1, pm r (2 * k + 1), none⟩))
              have f628_99 := f627_99.ne (n := 113) (by decide) (.pointer (some ⟨G + 1 + 1, pm r (2 * k + 1), none⟩))
              have f628_106 := f627_106.ne (n := 113) (by decide) (.pointer (some ⟨G + 1 + 1, pm r (2 * k + 1), none⟩))
              have f628_113 := At.put (a := a627) (n := 113) (by rw [S627.1, hsN]; decide) (.pointer (some ⟨G + 1 + 1, pm r (2 * k + 1), none⟩))
              have S628 := S627.put (n := 113) (by decide) (by decide) (.pointer (some ⟨G + 1 + 1, pm r (2 * k + 1), none⟩))
              generalize a627.put (some 113) (.pointer (some ⟨G + 1 + 1, pm r (2 * k + 1), none⟩)) = a628 at S628 f628_2 f628_3 f628_4 f628_8 f628_10 f628_12 f628_13 f628_15 f628_16 f628_17 f628_18 f628_91 f628_93 f628_95 f628_97 f628_99 f628_106 f628_113 ⊢
              refine still_val (v := (wv (g m (pm r (2 * k + 1))))) rfl (ex_load32 rfl f628_113.eval e5) ?_
              show wpStill _ _ _ _ _ (a628.put (some 114) (wv (g m (pm r (2 * k + 1)))))
              have f629_2 := f628_2.ne (n := 114) (by decide) (wv (g m (pm r (2 * k + 1))))
              have f629_3 := f628_3.ne (n := 114) (by decide) (wv (g m (pm r (2 * k + 1))))
              have f629_4 := f628_4.ne (n := 114) (by decide) (wv (g m (pm r (2 * k + 1))))
              have f629_8 := f628_8.ne (n := 114) (by decide) (wv (g m (pm r (2 * k + 1))))
              have f629_10 := f628_10.ne (n := 114) (by decide) (wv (g m (pm r (2 * k + 1))))
              have f629_12 := f628_12.ne (n := 114) (by decide) (wv (g m (pm r (2 * k + 1))))
              have f629_13 := f628_13.ne (n := 114) (by decide) (wv (g m (pm r (2 * k + 1))))
              have f629_15 := f628_15.ne (n := 114) (by decide) (wv (g m (pm r (2 * k + 1))))
              have f629_16 := f628_16.ne (n := 114) (by decide) (wv (g m (pm r (2 * k + 1))))
              have f629_17 := f628_17.ne (n := 114) (by decide) (wv (g m (pm r (2 * k + 1))))
              have f629_18 := f628_18.ne (n := 114) (by decide) (wv (g m (pm r (2 * k + 1))))
              have f629_91 := f628_91.ne (n := 114) (by decide) (wv (g m (pm r (2 * k + 1))))
              have f629_93 := f628_93.ne (n := 114) (by decide) (wv (g m (pm r (2 * k + 1))))
              have f629_95 := f628_95.ne (n := 114) (by decide) (wv (g m (pm r (2 * k + 1))))
              have f629_97 := f628_97.ne (n := 114) (by decide) (wv (g m (pm r (2 * k + 1))))
              have f629_99 := f628_99.ne (n := 114) (by decide) (wv (g m (pm r (2 * k + 1))))
              have f629_106 := f628_106.ne (n := 114) (by decide) (wv (g m (pm r (2 * k + 1))))
              have f629_114 := At.put (a := a628) (n := 114) (by rw [S628.1, hsN]; decide) (wv (g m (pm r (2 * k + 1))))
              have S629 := S628.put (n := 114) (by decide) (by decide) (wv (g m (pm r (2 * k + 1))))
              generalize a628.put (some 114) (wv (g m (pm r (2 * k + 1)))) = a629 at S629 f629_2 f629_3 f629_4 f629_8 f629_10 f629_12 f629_13 f629_15 f629_16 f629_17 f629_18 f629_91 f629_93 f629_95 f629_97 f629_99 f629_106 f629_114 ⊢
              refine wpStill_nil ?_
              have hmx := rmix_any (roundK m r k (roundsL m r (startL h count last))) ((colL k).getD 0 0) ((colL k).getD 1 0) ((colL k).getD 2 0) ((colL k).getD 3 0) (g m (pm r (2 * k))) (g m (pm r (2 * k + 1))) w3.drew hvl hc0 hc1 hc2 hc3
              refine list_enter (v := av (roundK m r (k + 1) (roundsL m r (startL h count last)))) (R := fun w' => Below w3.drew.heap.size w3.drew w') rfl (ex_call7 ent_mix rfl f629_91 f629_93 f629_95 f629_97 f629_99 f629_106 f629_114 _) hmx (fun w4 hb4 => ?_)
              show wpList _ _ _ _ (a629.put (some 115) (av (roundK m r (k + 1) (roundsL m r (startL h count last))))) _
              have f630_2 := f629_2.ne (n := 115) (by decide) (av (roundK m r (k + 1) (roundsL m r (startL h count last))))
              have f630_3 := f629_3.ne (n := 115) (by decide) (av (roundK m r (k + 1) (roundsL m r (startL h count last))))
              have f630_4 := f629_4.ne (n := 115) (by decide) (av (roundK m r (k + 1) (roundsL m r (startL h count last))))
              have f630_8 := f629_8.ne (n := 115) (by decide) (av (roundK m r (k + 1) (roundsL m r (startL h count last))))
              have f630_10 := f629_10.ne (n := 115) (by decide) (av (roundK m r (k + 1) (roundsL m r (startL h count last))))
              have f630_12 := f629_12.ne (n := 115) (by decide) (av (roundK m r (k + 1) (roundsL m r (startL h count last))))
              have f630_13 := f629_13.ne (n := 115) (by decide) (av (roundK m r (k + 1) (roundsL m r (startL h count last))))
              have f630_15 := f629_15.ne (n := 115) (by decide) (av (roundK m r (k + 1) (roundsL m r (startL h count last))))
              have f630_16 := f629_16.ne (n := 115) (by decide) (av (roundK m r (k + 1) (roundsL m r (startL h count last))))
              have f630_17 := f629_17.ne (n := 115) (by decide) (av (roundK m r (k + 1) (roundsL m r (startL h count last))))
              have f630_18 := f629_18.ne (n := 115) (by decide) (av (roundK m r (k + 1) (roundsL m r (startL h count last))))
              have f630_115 := At.put (a := a629) (n := 115) (by rw [S629.1, hsN]; decide) (av (roundK m r (k + 1) (roundsL m r (startL h count last))))
              have S630 := S629.put (n := 115) (by decide) (by decide) (av (roundK m r (k + 1) (roundsL m r (startL h count last))))
              generalize a629.put (some 115) (av (roundK m r (k + 1) (roundsL m r (startL h count last)))) = a630 at S630 f630_2 f630_3 f630_4 f630_8 f630_10 f630_12 f630_13 f630_15 f630_16 f630_17 f630_18 f630_115 ⊢
              have hA4 := hA3.drew.below hb4
              have hR4 := hR3.drew.below hb4
              have hM4 := hM3.drew.below hb4
              have hI4 := hI3.drew.below hb4
              have hV4 := hV3.drew.below hb4
              have hB4 := chain hB3.drew hb4
              have hvl2 : (roundK m r (k + 1) (roundsL m r (startL h count last))).length = 16 := by rw [roundK_len, roundsL_len, hs0]
              refine list_skip (w' := w4.setRow V (wvs (roundK m r (k + 1) (roundsL m r (startL h count last)))).toArray) rfl rfl (ex_storerow rfl f630_13.eval f630_115.eval hV4 (ir16 _ hvl2) (by simp [wvs_len, hvl, hvl2]) (wvs_one _)) ?_
              have hA5 := arr_row (cs := (wvs (roundK m r (k + 1) (roundsL m r (startL h count last)))).toArray) hA4 (show _ ≠ V by omega)
              have hR5 := arr_row (cs := (wvs (roundK m r (k + 1) (roundsL m r (startL h count last)))).toArray) hR4 (show _ ≠ V by omega)
              have hM5 := arr_row (cs := (wvs (roundK m r (k + 1) (roundsL m r (startL h count last)))).toArray) hM4 (show _ ≠ V by omega)
              have hI5 := arr_row (cs := (wvs (roundK m r (k + 1) (roundsL m r (startL h count last)))).toArray) hI4 (show _ ≠ V by omega)
              have hV5 := setRow_heap _ V _ (wvs (roundK m r (k + 1) (roundsL m r (startL h count last)))).toArray _ _ hV4
              have hB5 := below_setRow hB4 hVle (wvs (roundK m r (k + 1) (roundsL m r (startL h count last)))).toArray
              generalize w4.setRow V (wvs (roundK m r (k + 1) (roundsL m r (startL h count last)))).toArray = w5 at hA5 hR5 hM5 hI5 hV5 hB5 ⊢
              refine wpList_nil ?_
              show Code.wp _ _ _ a630 w5
              refine wp_region_lit ?_
              refine list_val (v := (.int .i64 (k : Int))) rfl (ex_move rfl f630_17.eval _) ?_
              show wpList _ _ _ _ (a630.put (some 87) (.int .i64 (k : Int))) _
              have f631_2 := f630_2.ne (n := 87) (by decide) (.int .i64 (k : Int))
              have f631_3 := f630_3.ne (n := 87) (by decide) (.int .i64 (k : Int))
              have f631_4 := f630_4.ne (n := 87) (by decide) (.int .i64 (k : Int))
              have f631_8 := f630_8.ne (n := 87) (by decide) (.int .i64 (k : Int))
              have f631_10 := f630_10.ne (n := 87) (by decide) (.int .i64 (k : Int))
              have f631_12 := f630_12.ne (n := 87) (by decide) (.int .i64 (k : Int))
              have f631_13 := f630_13.ne (n := 87) (by decide) (.int .i64 (k : Int))
              have f631_15 := f630_15.ne (n := 87) (by decide) (.int .i64 (k : Int))
              have f631_16 := f630_16.ne (n := 87) (by decide) (.int .i64 (k : Int))
              have f631_17 := f630_17.ne (n := 87) (by decide) (.int .i64 (k : Int))
              have f631_18 := f630_18.ne (n := 87) (by decide) (.int .i64 (k : Int))
              have f631_87 := At.put (a := a630) (n := 87) (by rw [S630.1, hsN]; decide) (.int .i64 (k : Int))
              have S631 := S630.put (n := 87) (by decide) (by decide) (.int .i64 (k : Int))
              generalize a630.put (some 87) (.int .i64 (k : Int)) = a631 at S631 f631_2 f631_3 f631_4 f631_8 f631_10 f631_12 f631_13 f631_15 f631_16 f631_17 f631_18 f631_87 ⊢
              refine list_val (v := (.int .i64 ((k + 1 : Nat) : Int))) rfl (ex_next rfl f631_87 (by omega) _) ?_
              show wpList _ _ _ _ (a631.put (some 88) (.int .i64 ((k + 1 : Nat) : Int))) _
              have f632_2 := f631_2.ne (n := 88) (by decide) (.int .i64 ((k + 1 : Nat) : Int))
              have f632_3 := f631_3.ne (n := 88) (by decide) (.int .i64 ((k + 1 : Nat) : Int))
              have f632_4 := f631_4.ne (n := 88) (by decide) (.int .i64 ((k + 1 : Nat) : Int))
              have f632_8 := f631_8.ne (n := 88) (by decide) (.int .i64 ((k + 1 : Nat) : Int))
              have f632_10 := f631_10.ne (n := 88) (by decide) (.int .i64 ((k + 1 : Nat) : Int))
              have f632_12 := f631_12.ne (n := 88) (by decide) (.int .i64 ((k + 1 : Nat) : Int))
              have f632_13 := f631_13.ne (n := 88) (by decide) (.int .i64 ((k + 1 : Nat) : Int))
              have f632_15 := f631_15.ne (n := 88) (by decide) (.int .i64 ((k + 1 : Nat) : Int))
              have f632_16 := f631_16.ne (n := 88) (by decide) (.int .i64 ((k + 1 : Nat) : Int))
              have f632_17 := f631_17.ne (n := 88) (by decide) (.int .i64 ((k + 1 : Nat) : Int))
              have f632_18 := f631_18.ne (n := 88) (by decide) (.int .i64 ((k + 1 : Nat) : Int))
              have f632_88 := At.put (a := a631) (n := 88) (by rw [S631.1, hsN]; decide) (.int .i64 ((k + 1 : Nat) : Int))
              have S632 := S631.put (n := 88) (by decide) (by decide) (.int .i64 ((k + 1 : Nat) : Int))
              generalize a631.put (some 88) (.int .i64 ((k + 1 : Nat) : Int)) = a632 at S632 f632_2 f632_3 f632_4 f632_8 f632_10 f632_12 f632_13 f632_15 f632_16 f632_17 f632_18 f632_88 ⊢
              refine list_val (v := (.int .i64 ((k + 1 : Nat) : Int))) rfl (ex_assign rfl f632_88.eval _) ?_
              show wpList _ _ _ _ (a632.put (some 17) (.int .i64 ((k + 1 : Nat) : Int))) _
              have f633_2 := f632_2.ne (n := 17) (by decide) (.int .i64 ((k + 1 : Nat) : Int))
              have f633_3 := f632_3.ne (n := 17) (by decide) (.int .i64 ((k + 1 : Nat) : Int))
              have f633_4 := f632_4.ne (n := 17) (by decide) (.int .i64 ((k + 1 : Nat) : Int))
              have f633_8 := f632_8.ne (n := 17) (by decide) (.int .i64 ((k + 1 : Nat) : Int))
              have f633_10 := f632_10.ne (n := 17) (by decide) (.int .i64 ((k + 1 : Nat) : Int))
              have f633_12 := f632_12.ne (n := 17) (by decide) (.int .i64 ((k + 1 : Nat) : Int))
              have f633_13 := f632_13.ne (n := 17) (by decide) (.int .i64 ((k + 1 : Nat) : Int))
              have f633_15 := f632_15.ne (n := 17) (by decide) (.int .i64 ((k + 1 : Nat) : Int))
              have f633_16 := f632_16.ne (n := 17) (by decide) (.int .i64 ((k + 1 : Nat) : Int))
              have f633_18 := f632_18.ne (n := 17) (by decide) (.int .i64 ((k + 1 : Nat) : Int))
              have f633_17 := At.put (a := a632) (n := 17) (by rw [S632.1, hsN]; decide) (.int .i64 ((k + 1 : Nat) : Int))
              have S633 := S632.put (n := 17) (by decide) (by decide) (.int .i64 ((k + 1 : Nat) : Int))
              generalize a632.put (some 17) (.int .i64 ((k + 1 : Nat) : Int)) = a633 at S633 f633_2 f633_3 f633_4 f633_8 f633_10 f633_12 f633_13 f633_15 f633_16 f633_18 f633_17 ⊢
              refine wpList_nil ?_
              refine (⟨⟨k + 1, by omega, f633_15, f633_16, f633_17, ⟨by rw [S633.1, hsN], by rw [S633.2.1, hdf], f633_2, f633_3, f633_4, f633_8, f633_10, f633_12, f633_13, hA5, hR5, hM5, hI5, hV5, hB5⟩⟩, ?_⟩ : RI6 w h m count last G Ib V r a633 w5 ∧ MUR 17 8 a633 w5 < 8 - k)
              unfold MUR
              rw [f633_17.eval]
              simp only [intOf]
              omega
            · obtain rfl : k = 8 := by omega
              rw [decide_eq_false hlt] at f602_86
              refine wp_cond_false f602_86.eval ?_
              refine wp_exit ?_
              show Code.wp _ _ _ a602 wr
              refine wp_region_lit ?_
              refine list_val (v := (.int .i64 (r : Int))) rfl (ex_move rfl f602_15.eval _) ?_
              show wpList _ _ _ _ (a602.put (some 81) (.int .i64 (r : Int))) _
              have f634_2 := f602_2.ne (n := 81) (by decide) (.int .i64 (r : Int))
              have f634_3 := f602_3.ne (n := 81) (by decide) (.int .i64 (r : Int))
              have f634_4 := f602_4.ne (n := 81) (by decide) (.int .i64 (r : Int))
              have f634_8 := f602_8.ne (n := 81) (by decide) (.int .i64 (r : Int))
              have f634_10 := f602_10.ne (n := 81) (by decide) (.int .i64 (r : Int))
              have f634_12 := f602_12.ne (n := 81) (by decide) (.int .i64 (r : Int))
              have f634_13 := f602_13.ne (n := 81) (by decide) (.int .i64 (r : Int))
              have f634_15 := f602_15.ne (n := 81) (by decide) (.int .i64 (r : Int))
              have f634_16 := f602_16.ne (n := 81) (by decide) (.int .i64 (r : Int))
              have f634_17 := f602_17.ne (n := 81) (by decide) (.int .i64 (r : Int))
              have f634_81 := At.put (a := a602) (n := 81) (by rw [S602.1, hsN]; decide) (.int .i64 (r : Int))
              have S634 := S602.put (n := 81) (by decide) (by decide) (.int .i64 (r : Int))
              generalize a602.put (some 81) (.int .i64 (r : Int)) = a634 at S634 f634_2 f634_3 f634_4 f634_8 f634_10 f634_12 f634_13 f634_15 f634_16 f634_17 f634_81 ⊢
              refine list_val (v := (.int .i64 ((r + 1 : Nat) : Int))) rfl (ex_next rfl f634_81 (by omega) _) ?_
              show wpList _ _ _ _ (a634.put (some 82) (.int .i64 ((r + 1 : Nat) : Int))) _
              have f635_2 := f634_2.ne (n := 82) (by decide) (.int .i64 ((r + 1 : Nat) : Int))
              have f635_3 := f634_3.ne (n := 82) (by decide) (.int .i64 ((r + 1 : Nat) : Int))
              have f635_4 := f634_4.ne (n := 82) (by decide) (.int .i64 ((r + 1 : Nat) : Int))
              have f635_8 := f634_8.ne (n := 82) (by decide) (.int .i64 ((r + 1 : Nat) : Int))
              have f635_10 := f634_10.ne (n := 82) (by decide) (.int .i64 ((r + 1 : Nat) : Int))
              have f635_12 := f634_12.ne (n := 82) (by decide) (.int .i64 ((r + 1 : Nat) : Int))
              have f635_13 := f634_13.ne (n := 82) (by decide) (.int .i64 ((r + 1 : Nat) : Int))
              have f635_15 := f634_15.ne (n := 82) (by decide) (.int .i64 ((r + 1 : Nat) : Int))
              have f635_16 := f634_16.ne (n := 82) (by decide) (.int .i64 ((r + 1 : Nat) : Int))
              have f635_17 := f634_17.ne (n := 82) (by decide) (.int .i64 ((r + 1 : Nat) : Int))
              have f635_82 := At.put (a := a634) (n := 82) (by rw [S634.1, hsN]; decide) (.int .i64 ((r + 1 : Nat) : Int))
              have S635 := S634.put (n := 82) (by decide) (by decide) (.int .i64 ((r + 1 : Nat) : Int))
              generalize a634.put (some 82) (.int .i64 ((r + 1 : Nat) : Int)) = a635 at S635 f635_2 f635_3 f635_4 f635_8 f635_10 f635_12 f635_13 f635_15 f635_16 f635_17 f635_82 ⊢
              refine list_val (v := (.int .i64 ((r + 1 : Nat) : Int))) rfl (ex_assign rfl f635_82.eval _) ?_
              show wpList _ _ _ _ (a635.put (some 15) (.int .i64 ((r + 1 : Nat) : Int))) _
              have f636_2 := f635_2.ne (n := 15) (by decide) (.int .i64 ((r + 1 : Nat) : Int))
              have f636_3 := f635_3.ne (n := 15) (by decide) (.int .i64 ((r + 1 : Nat) : Int))
              have f636_4 := f635_4.ne (n := 15) (by decide) (.int .i64 ((r + 1 : Nat) : Int))
              have f636_8 := f635_8.ne (n := 15) (by decide) (.int .i64 ((r + 1 : Nat) : Int))
              have f636_10 := f635_10.ne (n := 15) (by decide) (.int .i64 ((r + 1 : Nat) : Int))
              have f636_12 := f635_12.ne (n := 15) (by decide) (.int .i64 ((r + 1 : Nat) : Int))
              have f636_13 := f635_13.ne (n := 15) (by decide) (.int .i64 ((r + 1 : Nat) : Int))
              have f636_16 := f635_16.ne (n := 15) (by decide) (.int .i64 ((r + 1 : Nat) : Int))
              have f636_17 := f635_17.ne (n := 15) (by decide) (.int .i64 ((r + 1 : Nat) : Int))
              have f636_15 := At.put (a := a635) (n := 15) (by rw [S635.1, hsN]; decide) (.int .i64 ((r + 1 : Nat) : Int))
              have S636 := S635.put (n := 15) (by decide) (by decide) (.int .i64 ((r + 1 : Nat) : Int))
              generalize a635.put (some 15) (.int .i64 ((r + 1 : Nat) : Int)) = a636 at S636 f636_2 f636_3 f636_4 f636_8 f636_10 f636_12 f636_13 f636_16 f636_17 f636_15 ⊢
              refine wpList_nil ?_
              refine (⟨⟨r + 1, by omega, f636_15, ⟨by rw [S636.1, hsN], by rw [S636.2.1, hdf], f636_2, f636_3, f636_4, f636_8, f636_10, f636_12, f636_13, hA, hR, hM, hI, hV, hB⟩⟩, ?_⟩ : RI4 w h m count last G Ib V a636 wr ∧ MUR 15 10 a636 wr < 10 - r)
              unfold MUR
              rw [f636_15.eval]
              simp only [intOf]
              omega
          · obtain rfl : r = 10 := by omega
            rw [decide_eq_false hlt] at f502_80
            refine wp_cond_false f502_80.eval ?_
            refine wp_exit ?_
            exact ⟨by rw [S502.1, hsN], by rw [S502.2.1, hdf], f502_2, f502_3, f502_4, f502_8, f502_10, f502_12, f502_13, hA, hR, hM, hI, hV, hB⟩
        · clear hJ0
          intro a wr hJ0
          have hvv : (roundsL m 10 (startL h count last)).length = 16 := by rw [roundsL_len, hs0]
          have hVe : (roundsL m 10 (startL h count last)) = vecV h block.data.toList count last := by rw [← hm]; rfl
          refine wp_seq_then (fun a wr => RJ w h m count last G Ib V (cmpL h block.data.toList count last) (roundsL m 10 (startL h count last)) a wr) ?_ ?_
          · obtain ⟨hsN, hdf, y2, y3, y4, y8, y10, y12, y13, hA, hR, hM, hI, hV, hB⟩ := hJ0
            have S0 := Same.refl a 0 1000
            refine wp_seq ?_
            refine wp_region_lit ?_
            refine list_val (v := (.int .i64 ((0 : Nat) : Int))) rfl (ex_assign (v := (.int .i64 ((0 : Nat) : Int))) rfl rfl _) ?_
            show wpList _ _ _ _ (a.put (some 19) (.int .i64 ((0 : Nat) : Int))) _
            have f701_2 := y2.ne (n := 19) (by decide) (.int .i64 ((0 : Nat) : Int))
            have f701_3 := y3.ne (n := 19) (by decide) (.int .i64 ((0 : Nat) : Int))
            have f701_4 := y4.ne (n := 19) (by decide) (.int .i64 ((0 : Nat) : Int))
            have f701_8 := y8.ne (n := 19) (by decide) (.int .i64 ((0 : Nat) : Int))
            have f701_10 := y10.ne (n := 19) (by decide) (.int .i64 ((0 : Nat) : Int))
            have f701_12 := y12.ne (n := 19) (by decide) (.int .i64 ((0 : Nat) : Int))
            have f701_13 := y13.ne (n := 19) (by decide) (.int .i64 ((0 : Nat) : Int))
            have f701_19 := At.put (a := a) (n := 19) (by rw [S0.1, hsN]; decide) (.int .i64 ((0 : Nat) : Int))
            have S701 := S0.put (n := 19) (by decide) (by decide) (.int .i64 ((0 : Nat) : Int))
            generalize a.put (some 19) (.int .i64 ((0 : Nat) : Int)) = a701 at S701 f701_2 f701_3 f701_4 f701_8 f701_10 f701_12 f701_13 f701_19 ⊢
            refine wpList_nil ?_
            refine wp_block ?_
            refine wp_loop (RI8 w h m count last G Ib V (roundsL m 10 (startL h count last))) (MUR 19 8) ⟨0, h, by omega, f701_19, hh, fun j hj => by omega, fun j _ => rfl, ⟨by rw [S701.1, hsN], by rw [S701.2.1, hdf], f701_2, f701_3, f701_4, f701_8, f701_10, f701_12, f701_13, hA, hR, hM, hI, hV, hB⟩⟩ (fun a wr hX => ?_)
            obtain ⟨k, l, hk, y19, hl, hl1, hl2, ⟨hsN, hdf, y2, y3, y4, y8, y10, y12, y13, hA, hR, hM, hI, hV, hB⟩⟩ := hX
            have hmu : MUR 19 8 a wr = 8 - k := by unfold MUR; rw [y19.eval]; simp [intOf]
            rw [hmu]
            clear hmu
            have S0 := Same.refl a 0 1000
            refine wp_seq ?_
            refine wp_seq ?_
            refine wp_region_lit ?_
            refine list_val (v := (.int .i64 (k : Int))) rfl (ex_move rfl y19.eval _) ?_
            show wpList _ _ _ _ (a.put (some 116) (.int .i64 (k : Int))) _
            have f801_2 := y2.ne (n := 116) (by decide) (.int .i64 (k : Int))
            have f801_3 := y3.ne (n := 116) (by decide) (.int .i64 (k : Int))
            have f801_4 := y4.ne (n := 116) (by decide) (.int .i64 (k : Int))
            have f801_8 := y8.ne (n := 116) (by decide) (.int .i64 (k : Int))
            have f801_10 := y10.ne (n := 116) (by decide) (.int .i64 (k : Int))
            have f801_12 := y12.ne (n := 116) (by decide) (.int .i64 (k : Int))
            have f801_13 := y13.ne (n := 116) (by decide) (.int .i64 (k : Int))
            have f801_19 := y19.ne (n := 116) (by decide) (.int .i64 (k : Int))
            have f801_116 := At.put (a := a) (n := 116) (by rw [S0.1, hsN]; decide) (.int .i64 (k : Int))
            have S801 := S0.put (n := 116) (by decide) (by decide) (.int .i64 (k : Int))
            generalize a.put (some 116) (.int .i64 (k : Int)) = a801 at S801 f801_2 f801_3 f801_4 f801_8 f801_10 f801_12 f801_13 f801_19 f801_116 ⊢
            refine list_val (v := (.bool (decide (k < 8)))) rfl (ex_less rfl f801_116 _) ?_
            show wpList _ _ _ _ (a801.put (some 117) (.bool (decide (k < 8)))) _
            have f802_2 := f801_2.ne (n := 117) (by decide) (.bool (decide (k < 8)))
            have f802_3 := f801_3.ne (n := 117) (by decide) (.bool (decide (k < 8)))
            have f802_4 := f801_4.ne (n := 117) (by decide) (.bool (decide (k < 8)))
            have f802_8 := f801_8.ne (n := 117) (by decide) (.bool (decide (k < 8)))
            have f802_10 := f801_10.ne (n := 117) (by decide) (.bool (decide (k < 8)))
            have f802_12 := f801_12.ne (n := 117) (by decide) (.bool (decide (k < 8)))
            have f802_13 := f801_13.ne (n := 117) (by decide) (.bool (decide (k < 8)))
            have f802_19 := f801_19.ne (n := 117) (by decide) (.bool (decide (k < 8)))
            have f802_117 := At.put (a := a801) (n := 117) (by rw [S801.1, hsN]; decide) (.bool (decide (k < 8)))
            have S802 := S801.put (n := 117) (by decide) (by decide) (.bool (decide (k < 8)))
            generalize a801.put (some 117) (.bool (decide (k < 8))) = a802 at S802 f802_2 f802_3 f802_4 f802_8 f802_10 f802_12 f802_13 f802_19 f802_117 ⊢
            refine wpList_nil ?_
            show Code.wp _ _ _ a802 wr
            by_cases hlt : k < 8
            · rw [decide_eq_true hlt] at f802_117
              refine wp_cond_true f802_117.eval ?_
              refine wp_skip ?_
              show Code.wp _ _ _ a802 wr
              refine wp_seq ?_
              refine wp_block ?_
              have e1 := hA.drew.cell k (by omega)
              have e2 := hV.drew.cell k (by omega)
              have e3 := hV.drew.cell (k + 8) (by omega)
              have f1 := hA.drew.froz k
              rw [hl2 k (Nat.le_refl k)] at e1
              refine wp_region_still_tail 14 (by kernel_rfl) (by kernel_rfl) ?_
              simp only [List.take_succ_cons, List.take_zero, List.drop_succ_cons, List.drop_zero]
              refine still_val (v := (.int .i64 (k : Int))) rfl (ex_move rfl f802_19.eval _) ?_
              show wpStill _ _ _ _ _ (a802.put (some 120) (.int .i64 (k : Int)))
              have f803_2 := f802_2.ne (n := 120) (by decide) (.int .i64 (k : Int))
              have f803_3 := f802_3.ne (n := 120) (by decide) (.int .i64 (k : Int))
              have f803_4 := f802_4.ne (n := 120) (by decide) (.int .i64 (k : Int))
              have f803_8 := f802_8.ne (n := 120) (by decide) (.int .i64 (k : Int))
              have f803_10 := f802_10.ne (n := 120) (by decide) (.int .i64 (k : Int))
              have f803_12 := f802_12.ne (n := 120) (by decide) (.int .i64 (k : Int))
              have f803_13 := f802_13.ne (n := 120) (by decide) (.int .i64 (k : Int))
              have f803_19 := f802_19.ne (n := 120) (by decide) (.int .i64 (k : Int))
              have f803_120 := At.put (a := a802) (n := 120) (by rw [S802.1, hsN]; decide) (.int .i64 (k : Int))
              have S803 := S802.put (n := 120) (by decide) (by decide) (.int .i64 (k : Int))
              generalize a802.put (some 120) (.int .i64 (k : Int)) = a803 at S803 f803_2 f803_3 f803_4 f803_8 f803_10 f803_12 f803_13 f803_19 f803_120 ⊢
              refine still_val (v := (.int .i64 (k : Int))) rfl (ex_move rfl f803_19.eval _) ?_
              show wpStill _ _ _ _ _ (a803.put (some 121) (.int .i64 (k : Int)))
              have f804_2 := f803_2.ne (n := 121) (by decide) (.int .i64 (k : Int))
              have f804_3 := f803_3.ne (n := 121) (by decide) (.int .i64 (k : Int))
              have f804_4 := f803_4.ne (n := 121) (by decide) (.int .i64 (k : Int))
              have f804_8 := f803_8.ne (n := 121) (by decide) (.int .i64 (k : Int))
              have f804_10 := f803_10.ne (n := 121) (by decide) (.int .i64 (k : Int))
              have f804_12 := f803_12.ne (n := 121) (by decide) (.int .i64 (k : Int))
              have f804_13 := f803_13.ne (n := 121) (by decide) (.int .i64 (k : Int))
              have f804_19 := f803_19.ne (n := 121) (by decide) (.int .i64 (k : Int))
              have f804_120 := f803_120.ne (n := 121) (by decide) (.int .i64 (k : Int))
              have f804_121 := At.put (a := a803) (n := 121) (by rw [S803.1, hsN]; decide) (.int .i64 (k : Int))
              have S804 := S803.put (n := 121) (by decide) (by decide) (.int .i64 (k : Int))
              generalize a803.put (some 121) (.int .i64 (k : Int)) = a804 at S804 f804_2 f804_3 f804_4 f804_8 f804_10 f804_12 f804_13 f804_19 f804_120 f804_121 ⊢
              refine still_val (v := (.pointer (some ⟨G, k, none⟩))) rfl (ex_idx8 rfl f804_4.eval f804_121.eval hlt _) ?_
              show wpStill _ _ _ _ _ (a804.put (some 122) (.pointer (some ⟨G, k, none⟩)))
              have f805_2 := f804_2.ne (n := 122) (by decide) (.pointer (some ⟨G, k, none⟩))
              have f805_3 := f804_3.ne (n := 122) (by decide) (.pointer (some ⟨G, k, none⟩))
              have f805_4 := f804_4.ne (n := 122) (by decide) (.pointer (some ⟨G, k, none⟩))
              have f805_8 := f804_8.ne (n := 122) (by decide) (.pointer (some ⟨G, k, none⟩))
              have f805_10 := f804_10.ne (n := 122) (by decide) (.pointer (some ⟨G, k, none⟩))
              have f805_12 := f804_12.ne (n := 122) (by decide) (.pointer (some ⟨G, k, none⟩))
              have f805_13 := f804_13.ne (n := 122) (by decide) (.pointer (some ⟨G, k, none⟩))
              have f805_19 := f804_19.ne (n := 122) (by decide) (.pointer (some ⟨G, k, none⟩))
              have f805_120 := f804_120.ne (n := 122) (by decide) (.pointer (some ⟨G, k, none⟩))
              have f805_122 := At.put (a := a804) (n := 122) (by rw [S804.1, hsN]; decide) (.pointer (some ⟨G, k, none⟩))
              have S805 := S804.put (n := 122) (by decide) (by decide) (.pointer (some ⟨G, k, none⟩))
              generalize a804.put (some 122) (.pointer (some ⟨G, k, none⟩)) = a805 at S805 f805_2 f805_3 f805_4 f805_8 f805_10 f805_12 f805_13 f805_19 f805_120 f805_122 ⊢
              refine still_val (v := (wv (g h k))) rfl (ex_load32 rfl f805_122.eval e1) ?_
              show wpStill _ _ _ _ _ (a805.put (some 123) (wv (g h k)))
              have f806_2 := f805_2.ne (n := 123) (by decide) (wv (g h k))
              have f806_3 := f805_3.ne (n := 123) (by decide) (wv (g h k))
              have f806_4 := f805_4.ne (n := 123) (by decide) (wv (g h k))
              have f806_8 := f805_8.ne (n := 123) (by decide) (wv (g h k))
              have f806_10 := f805_10.ne (n := 123) (by decide) (wv (g h k))
              have f806_12 := f805_12.ne (n := 123) (by decide) (wv (g h k))
              have f806_13 := f805_13.ne (n := 123) (by decide) (wv (g h k))
              have f806_19 := f805_19.ne (n := 123) (by decide) (wv (g h k))
              have f806_120 := f805_120.ne (n := 123) (by decide) (wv (g h k))
              have f806_123 := At.put (a := a805) (n := 123) (by rw [S805.1, hsN]; decide) (wv (g h k))
              have S806 := S805.put (n := 123) (by decide) (by decide) (wv (g h k))
              generalize a805.put (some 123) (wv (g h k)) = a806 at S806 f806_2 f806_3 f806_4 f806_8 f806_10 f806_12 f806_13 f806_19 f806_120 f806_123 ⊢
              refine still_val (v := (.int .i64 (k : Int))) rfl (ex_move rfl f806_19.eval _) ?_
              show wpStill _ _ _ _ _ (a806.put (some 124) (.int .i64 (k : Int)))
              have f807_2 := f806_2.ne (n := 124) (by decide) (.int .i64 (k : Int))
              have f807_3 := f806_3.ne (n := 124) (by decide) (.int .i64 (k : Int))
              have f807_4 := f806_4.ne (n := 124) (by decide) (.int .i64 (k : Int))
              have f807_8 := f806_8.ne (n := 124) (by decide) (.int .i64 (k : Int))
              have f807_10 := f806_10.ne (n := 124) (by decide) (.int .i64 (k : Int))
              have f807_12 := f806_12.ne (n := 124) (by decide) (.int .i64 (k : Int))
              have f807_13 := f806_13.ne (n := 124) (by decide) (.int .i64 (k : Int))
              have f807_19 := f806_19.ne (n := 124) (by decide) (.int .i64 (k : Int))
              have f807_120 := f806_120.ne (n := 124) (by decide) (.int .i64 (k : Int))
              have f807_123 := f806_123.ne (n := 124) (by decide) (.int .i64 (k : Int))
              have f807_124 := At.put (a := a806) (n := 124) (by rw [S806.1, hsN]; decide) (.int .i64 (k : Int))
              have S807 := S806.put (n := 124) (by decide) (by decide) (.int .i64 (k : Int))
              generalize a806.put (some 124) (.int .i64 (k : Int)) = a807 at S807 f807_2 f807_3 f807_4 f807_8 f807_10 f807_12 f807_13 f807_19 f807_120 f807_123 f807_124 ⊢
              refine still_val (v := (.pointer (some ⟨V, k, none⟩))) rfl (ex_idx16 rfl f807_13.eval f807_124.eval (by omega) _) ?_
              show wpStill _ _ _ _ _ (a807.put (some 125) (.pointer (some ⟨V, k, none⟩)))
              have f808_2 := f807_2.ne (n := 125) (by decide) (.pointer (some ⟨V, k, none⟩))
              have f808_3 := f807_3.ne (n := 125) (by decide) (.pointer (some ⟨V, k, none⟩))
              have f808_4 := f807_4.ne (n := 125) (by decide) (.pointer (some ⟨V, k, none⟩))
              have f808_8 := f807_8.ne (n := 125) (by decide) (.pointer (some ⟨V, k, none⟩))
              have f808_10 := f807_10.ne (n := 125) (by decide) (.pointer (some ⟨V, k, none⟩))
              have f808_12 := f807_12.ne (n := 125) (by decide) (.pointer (some ⟨V, k, none⟩))
              have f808_13 := f807_13.ne (n := 125) (by decide) (.pointer (some ⟨V, k, none⟩))
              have f808_19 := f807_19.ne (n := 125) (by decide) (.pointer (some ⟨V, k, none⟩))
              have f808_120 := f807_120.ne (n := 125) (by decide) (.pointer (some ⟨V, k, none⟩))
              have f808_123 := f807_123.ne (n := 125) (by decide) (.pointer (some ⟨V, k, none⟩))
              have f808_125 := At.put (a := a807) (n := 125) (by rw [S807.1, hsN]; decide) (.pointer (some ⟨V, k, none⟩))
              have S808 := S807.put (n := 125) (by decide) (by decide) (.pointer (some ⟨V, k, none⟩))
              generalize a807.put (some 125) (.pointer (some ⟨V, k, none⟩)) = a808 at S808 f808_2 f808_3 f808_4 f808_8 f808_10 f808_12 f808_13 f808_19 f808_120 f808_123 f808_125 ⊢
              refine still_val (v := (wv (g (roundsL m 10 (startL h count last)) k))) rfl (ex_load32 rfl f808_125.eval e2) ?_
              show wpStill _ _ _ _ _ (a808.put (some 126) (wv (g (roundsL m 10 (startL h count last)) k)))
              have f809_2 := f808_2.ne (n := 126) (by decide) (wv (g (roundsL m 10 (startL h count last)) k))
              have f809_3 := f808_3.ne (n := 126) (by decide) (wv (g (roundsL m 10 (startL h count last)) k))
              have f809_4 := f808_4.ne (n := 126) (by decide) (wv (g (roundsL m 10 (startL h count last)) k))
              have f809_8 := f808_8.ne (n := 126) (by decide) (wv (g (roundsL m 10 (startL h count last)) k))
              have f809_10 := f808_10.ne (n := 126) (by decide) (wv (g (roundsL m 10 (startL h count last)) k))
              have f809_12 := f808_12.ne (n := 126) (by decide) (wv (g (roundsL m 10 (startL h count last)) k))
              have f809_13 := f808_13.ne (n := 126) (by decide) (wv (g (roundsL m 10 (startL h count last)) k))
              have f809_19 := f808_19.ne (n := 126) (by decide) (wv (g (roundsL m 10 (startL h count last)) k))
              have f809_120 := f808_120.ne (n := 126) (by decide) (wv (g (roundsL m 10 (startL h count last)) k))
              have f809_123 := f808_123.ne (n := 126) (by decide) (wv (g (roundsL m 10 (startL h count last)) k))
              have f809_126 := At.put (a := a808) (n := 126) (by rw [S808.1, hsN]; decide) (wv (g (roundsL m 10 (startL h count last)) k))
              have S809 := S808.put (n := 126) (by decide) (by decide) (wv (g (roundsL m 10 (startL h count last)) k))
              generalize a808.put (some 126) (wv (g (roundsL m 10 (startL h count last)) k)) = a809 at S809 f809_2 f809_3 f809_4 f809_8 f809_10 f809_12 f809_13 f809_19 f809_120 f809_123 f809_126 ⊢
              refine still_val (v := (wv (g h k ^^^ g (roundsL m 10 (startL h count last)) k))) rfl (ex_xor rfl f809_123 f809_126 _) ?_
              show wpStill _ _ _ _ _ (a809.put (some 127) (wv (g h k ^^^ g (roundsL m 10 (startL h count last)) k)))
              have f810_2 := f809_2.ne (n := 127) (by decide) (wv (g h k ^^^ g (roundsL m 10 (startL h count last)) k))
              have f810_3 := f809_3.ne (n := 127) (by decide) (wv (g h k ^^^ g (roundsL m 10 (startL h count last)) k))
              have f810_4 := f809_4.ne (n := 127) (by decide) (wv (g h k ^^^ g (roundsL m 10 (startL h count last)) k))
              have f810_8 := f809_8.ne (n := 127) (by decide) (wv (g h k ^^^ g (roundsL m 10 (startL h count last)) k))
              have f810_10 := f809_10.ne (n := 127) (by decide) (wv (g h k ^^^ g (roundsL m 10 (startL h count last)) k))
              have f810_12 := f809_12.ne (n := 127) (by decide) (wv (g h k ^^^ g (roundsL m 10 (startL h count last)) k))
              have f810_13 := f809_13.ne (n := 127) (by decide) (wv (g h k ^^^ g (roundsL m 10 (startL h count last)) k))
              have f810_19 := f809_19.ne (n := 127) (by decide) (wv (g h k ^^^ g (roundsL m 10 (startL h count last)) k))
              have f810_120 := f809_120.ne (n := 127) (by decide) (wv (g h k ^^^ g (roundsL m 10 (startL h count last)) k))
              have f810_127 := At.put (a := a809) (n := 127) (by rw [S809.1, hsN]; decide) (wv (g h k ^^^ g (roundsL m 10 (startL h count last)) k))
              have S810 := S809.put (n := 127) (by decide) (by decide) (wv (g h k ^^^ g (roundsL m 10 (startL h count last)) k))
              generalize a809.put (some 127) (wv (g h k ^^^ g (roundsL m 10 (startL h count last)) k)) = a810 at S810 f810_2 f810_3 f810_4 f810_8 f810_10 f810_12 f810_13 f810_19 f810_120 f810_127 ⊢
              refine still_val (v := (.int .i64 (k : Int))) rfl (ex_move rfl f810_19.eval _) ?_
              show wpStill _ _ _ _ _ (a810.put (some 128) (.int .i64 (k : Int)))
              have f811_2 := f810_2.ne (n := 128) (by decide) (.int .i64 (k : Int))
              have f811_3 := f810_3.ne (n := 128) (by decide) (.int .i64 (k : Int))
              have f811_4 := f810_4.ne (n := 128) (by decide) (.int .i64 (k : Int))
              have f811_8 := f810_8.ne (n := 128) (by decide) (.int .i64 (k : Int))
              have f811_10 := f810_10.ne (n := 128) (by decide) (.int .i64 (k : Int))
              have f811_12 := f810_12.ne (n := 128) (by decide) (.int .i64 (k : Int))
              have f811_13 := f810_13.ne (n := 128) (by decide) (.int .i64 (k : Int))
              have f811_19 := f810_19.ne (n := 128) (by decide) (.int .i64 (k : Int))
              have f811_120 := f810_120.ne (n := 128) (by decide) (.int .i64 (k : Int))
              have f811_127 := f810_127.ne (n := 128) (by decide) (.int .i64 (k : Int))
              have f811_128 := At.put (a := a810) (n := 128) (by rw [S810.1, hsN]; decide) (.int .i64 (k : Int))
              have S811 := S810.put (n := 128) (by decide) (by decide) (.int .i64 (k : Int))
              generalize a810.put (some 128) (.int .i64 (k : Int)) = a811 at S811 f811_2 f811_3 f811_4 f811_8 f811_10 f811_12 f811_13 f811_19 f811_120 f811_127 f811_128 ⊢
              refine still_val (v := (.int .i64 ((k + 8 : Nat) : Int))) rfl (ex_add (c := 8) rfl f811_128 (by omega) (by omega) _) ?_
              show wpStill _ _ _ _ _ (a811.put (some 129) (.int .i64 ((k + 8 : Nat) : Int)))
              have f812_2 := f811_2.ne (n := 129) (by decide) (.int .i64 ((k + 8 : Nat) : Int))
              have f812_3 := f811_3.ne (n := 129) (by decide) (.int .i64 ((k + 8 : Nat) : Int))
              have f812_4 := f811_4.ne (n := 129) (by decide) (.int .i64 ((k + 8 : Nat) : Int))
              have f812_8 := f811_8.ne (n := 129) (by decide) (.int .i64 ((k + 8 : Nat) : Int))
              have f812_10 := f811_10.ne (n := 129) (by decide) (.int .i64 ((k + 8 : Nat) : Int))
              have f812_12 := f811_12.ne (n := 129) (by decide) (.int .i64 ((k + 8 : Nat) : Int))
              have f812_13 := f811_13.ne (n := 129) (by decide) (.int .i64 ((k + 8 : Nat) : Int))
              have f812_19 := f811_19.ne (n := 129) (by decide) (.int .i64 ((k + 8 : Nat) : Int))
              have f812_120 := f811_120.ne (n := 129) (by decide) (.int .i64 ((k + 8 : Nat) : Int))
              have f812_127 := f811_127.ne (n := 129) (by decide) (.int .i64 ((k + 8 : Nat) : Int))
              have f812_129 := At.put (a := a811) (n := 129) (by rw [S811.1, hsN]; decide) (.int .i64 ((k + 8 : Nat) : Int))
              have S812 := S811.put (n := 129) (by decide) (by decide) (.int .i64 ((k + 8 : Nat) : Int))
              generalize a811.put (some 129) (.int .i64 ((k + 8 : Nat) : Int)) = a812 at S812 f812_2 f812_3 f812_4 f812_8 f812_10 f812_12 f812_13 f812_19 f812_120 f812_127 f812_129 ⊢
              refine still_val (v := (.pointer (some ⟨V, (k + 8), none⟩))) rfl (ex_idx16 rfl f812_13.eval f812_129.eval (by omega) _) ?_
              show wpStill _ _ _ _ _ (a812.put (some 130) (.pointer (some ⟨V, (k + 8), none⟩)))
              have f813_2 := f812_2.ne (n := 130) (by decide) (.pointer (some ⟨V, (k + 8), none⟩))
              have f813_3 := f812_3.ne (n := 130) (by decide) (.pointer (some ⟨V, (k + 8), none⟩))
              have f813_4 := f812_4.ne (n := 130) (by decide) (.pointer (some ⟨V, (k + 8), none⟩))
              have f813_8 := f812_8.ne (n := 130) (by decide) (.pointer (some ⟨V, (k + 8), none⟩))
              have f813_10 := f812_10.ne (n := 130) (by decide) (.pointer (some ⟨V, (k + 8), none⟩))
              have f813_12 := f812_12.ne (n := 130) (by decide) (.pointer (some ⟨V, (k + 8), none⟩))
              have f813_13 := f812_13.ne (n := 130) (by decide) (.pointer (some ⟨V, (k + 8), none⟩))
              have f813_19 := f812_19.ne (n := 130) (by decide) (.pointer (some ⟨V, (k + 8), none⟩))
              have f813_120 := f812_120.ne (n := 130) (by decide) (.pointer (some ⟨V, (k + 8), none⟩))
              have f813_127 := f812_127.ne (n := 130) (by decide) (.pointer (some ⟨V, (k + 8), none⟩))
              have f813_130 := At.put (a := a812) (n := 130) (by rw [S812.1, hsN]; decide) (.pointer (some ⟨V, (k + 8), none⟩))
              have S813 := S812.put (n := 130) (by decide) (by decide) (.pointer (some ⟨V, (k + 8), none⟩))
              generalize a812.put (some 130) (.pointer (some ⟨V, (k + 8), none⟩)) = a813 at S813 f813_2 f813_3 f813_4 f813_8 f813_10 f813_12 f813_13 f813_19 f813_120 f813_127 f813_130 ⊢
              refine still_val (v := (wv (g (roundsL m 10 (startL h count last)) (k + 8)))) rfl (ex_load32 rfl f813_130.eval e3) ?_
              show wpStill _ _ _ _ _ (a813.put (some 131) (wv (g (roundsL m 10 (startL h count last)) (k + 8))))
              have f814_2 := f813_2.ne (n := 131) (by decide) (wv (g (roundsL m 10 (startL h count last)) (k + 8)))
              have f814_3 := f813_3.ne (n := 131) (by decide) (wv (g (roundsL m 10 (startL h count last)) (k + 8)))
              have f814_4 := f813_4.ne (n := 131) (by decide) (wv (g (roundsL m 10 (startL h count last)) (k + 8)))
              have f814_8 := f813_8.ne (n := 131) (by decide) (wv (g (roundsL m 10 (startL h count last)) (k + 8)))
              have f814_10 := f813_10.ne (n := 131) (by decide) (wv (g (roundsL m 10 (startL h count last)) (k + 8)))
              have f814_12 := f813_12.ne (n := 131) (by decide) (wv (g (roundsL m 10 (startL h count last)) (k + 8)))
              have f814_13 := f813_13.ne (n := 131) (by decide) (wv (g (roundsL m 10 (startL h count last)) (k + 8)))
              have f814_19 := f813_19.ne (n := 131) (by decide) (wv (g (roundsL m 10 (startL h count last)) (k + 8)))
              have f814_120 := f813_120.ne (n := 131) (by decide) (wv (g (roundsL m 10 (startL h count last)) (k + 8)))
              have f814_127 := f813_127.ne (n := 131) (by decide) (wv (g (roundsL m 10 (startL h count last)) (k + 8)))
              have f814_131 := At.put (a := a813) (n := 131) (by rw [S813.1, hsN]; decide) (wv (g (roundsL m 10 (startL h count last)) (k + 8)))
              have S814 := S813.put (n := 131) (by decide) (by decide) (wv (g (roundsL m 10 (startL h count last)) (k + 8)))
              generalize a813.put (some 131) (wv (g (roundsL m 10 (startL h count last)) (k + 8))) = a814 at S814 f814_2 f814_3 f814_4 f814_8 f814_10 f814_12 f814_13 f814_19 f814_120 f814_127 f814_131 ⊢
              refine still_val (v := (wv (g h k ^^^ g (roundsL m 10 (startL h count last)) k ^^^ g (roundsL m 10 (startL h count last)) (k + 8)))) rfl (ex_xor rfl f814_127 f814_131 _) ?_
              show wpStill _ _ _ _ _ (a814.put (some 132) (wv (g h k ^^^ g (roundsL m 10 (startL h count last)) k ^^^ g (roundsL m 10 (startL h count last)) (k + 8))))
              have f815_2 := f814_2.ne (n := 132) (by decide) (wv (g h k ^^^ g (roundsL m 10 (startL h count last)) k ^^^ g (roundsL m 10 (startL h count last)) (k + 8)))
              have f815_3 := f814_3.ne (n := 132) (by decide) (wv (g h k ^^^ g (roundsL m 10 (startL h count last)) k ^^^ g (roundsL m 10 (startL h count last)) (k + 8)))
              have f815_4 := f814_4.ne (n := 132) (by decide) (wv (g h k ^^^ g (roundsL m 10 (startL h count last)) k ^^^ g (roundsL m 10 (startL h count last)) (k + 8)))
              have f815_8 := f814_8.ne (n := 132) (by decide) (wv (g h k ^^^ g (roundsL m 10 (startL h count last)) k ^^^ g (roundsL m 10 (startL h count last)) (k + 8)))
              have f815_10 := f814_10.ne (n := 132) (by decide) (wv (g h k ^^^ g (roundsL m 10 (startL h count last)) k ^^^ g (roundsL m 10 (startL h count last)) (k + 8)))
              have f815_12 := f814_12.ne (n := 132) (by decide) (wv (g h k ^^^ g (roundsL m 10 (startL h count last)) k ^^^ g (roundsL m 10 (startL h count last)) (k + 8)))
              have f815_13 := f814_13.ne (n := 132) (by decide) (wv (g h k ^^^ g (roundsL m 10 (startL h count last)) k ^^^ g (roundsL m 10 (startL h count last)) (k + 8)))
              have f815_19 := f814_19.ne (n := 132) (by decide) (wv (g h k ^^^ g (roundsL m 10 (startL h count last)) k ^^^ g (roundsL m 10 (startL h count last)) (k + 8)))
              have f815_120 := f814_120.ne (n := 132) (by decide) (wv (g h k ^^^ g (roundsL m 10 (startL h count last)) k ^^^ g (roundsL m 10 (startL h count last)) (k + 8)))
              have f815_132 := At.put (a := a814) (n := 132) (by rw [S814.1, hsN]; decide) (wv (g h k ^^^ g (roundsL m 10 (startL h count last)) k ^^^ g (roundsL m 10 (startL h count last)) (k + 8)))
              have S815 := S814.put (n := 132) (by decide) (by decide) (wv (g h k ^^^ g (roundsL m 10 (startL h count last)) k ^^^ g (roundsL m 10 (startL h count last)) (k + 8)))
              generalize a814.put (some 132) (wv (g h k ^^^ g (roundsL m 10 (startL h count last)) k ^^^ g (roundsL m 10 (startL h count last)) (k + 8))) = a815 at S815 f815_2 f815_3 f815_4 f815_8 f815_10 f815_12 f815_13 f815_19 f815_120 f815_132 ⊢
              refine still_val (v := (.pointer (some ⟨G, k, none⟩))) rfl (ex_idx8 rfl f815_4.eval f815_120.eval hlt _) ?_
              show wpStill _ _ _ _ _ (a815.put (some 133) (.pointer (some ⟨G, k, none⟩)))
              have f816_2 := f815_2.ne (n := 133) (by decide) (.pointer (some ⟨G, k, none⟩))
              have f816_3 := f815_3.ne (n := 133) (by decide) (.pointer (some ⟨G, k, none⟩))
              have f816_4 := f815_4.ne (n := 133) (by decide) (.pointer (some ⟨G, k, none⟩))
              have f816_8 := f815_8.ne (n := 133) (by decide) (.pointer (some ⟨G, k, none⟩))
              have f816_10 := f815_10.ne (n := 133) (by decide) (.pointer (some ⟨G, k, none⟩))
              have f816_12 := f815_12.ne (n := 133) (by decide) (.pointer (some ⟨G, k, none⟩))
              have f816_13 := f815_13.ne (n := 133) (by decide) (.pointer (some ⟨G, k, none⟩))
              have f816_19 := f815_19.ne (n := 133) (by decide) (.pointer (some ⟨G, k, none⟩))
              have f816_132 := f815_132.ne (n := 133) (by decide) (.pointer (some ⟨G, k, none⟩))
              have f816_133 := At.put (a := a815) (n := 133) (by rw [S815.1, hsN]; decide) (.pointer (some ⟨G, k, none⟩))
              have S816 := S815.put (n := 133) (by decide) (by decide) (.pointer (some ⟨G, k, none⟩))
              generalize a815.put (some 133) (.pointer (some ⟨G, k, none⟩)) = a816 at S816 f816_2 f816_3 f816_4 f816_8 f816_10 f816_12 f816_13 f816_19 f816_132 f816_133 ⊢
              refine wpStill_nil ?_
              refine list_skip rfl rfl (ex_store32 rfl f816_133.eval f816_132.eval e1 f1) ?_
              refine wpList_nil ?_
              show Code.wp _ _ _ a816 (wr.drew.setCell ⟨G, k, none⟩ (wv (g h k ^^^ g (roundsL m 10 (startL h count last)) k ^^^ g (roundsL m 10 (startL h count last)) (k + 8))))
              have hR2 := hR.drew.far (by omega : G + 1 ≠ G) (i := k) (wv (g h k ^^^ g (roundsL m 10 (startL h count last)) k ^^^ g (roundsL m 10 (startL h count last)) (k + 8)))
              have hM2 := hM.drew.far (by omega : G + 1 + 1 ≠ G) (i := k) (wv (g h k ^^^ g (roundsL m 10 (startL h count last)) k ^^^ g (roundsL m 10 (startL h count last)) (k + 8)))
              have hI2 := hI.drew.far (by omega : Ib ≠ G) (i := k) (wv (g h k ^^^ g (roundsL m 10 (startL h count last)) k ^^^ g (roundsL m 10 (startL h count last)) (k + 8)))
              have hV2 := hV.drew.far (by omega : V ≠ G) (i := k) (wv (g h k ^^^ g (roundsL m 10 (startL h count last)) k ^^^ g (roundsL m 10 (startL h count last)) (k + 8)))
              have hB2 := hB.drew.setCell (p := ⟨G, k, none⟩) hGle (wv (g h k ^^^ g (roundsL m 10 (startL h count last)) k ^^^ g (roundsL m 10 (startL h count last)) (k + 8)))
              have hA2 := hA.drew.set k (g h k ^^^ g (roundsL m 10 (startL h count last)) k ^^^ g (roundsL m 10 (startL h count last)) (k + 8))
              refine wp_region_lit ?_
              refine list_val (v := (.int .i64 (k : Int))) rfl (ex_move rfl f816_19.eval _) ?_
              show wpList _ _ _ _ (a816.put (some 118) (.int .i64 (k : Int))) _
              have f817_2 := f816_2.ne (n := 118) (by decide) (.int .i64 (k : Int))
              have f817_3 := f816_3.ne (n := 118) (by decide) (.int .i64 (k : Int))
              have f817_4 := f816_4.ne (n := 118) (by decide) (.int .i64 (k : Int))
              have f817_8 := f816_8.ne (n := 118) (by decide) (.int .i64 (k : Int))
              have f817_10 := f816_10.ne (n := 118) (by decide) (.int .i64 (k : Int))
              have f817_12 := f816_12.ne (n := 118) (by decide) (.int .i64 (k : Int))
              have f817_13 := f816_13.ne (n := 118) (by decide) (.int .i64 (k : Int))
              have f817_19 := f816_19.ne (n := 118) (by decide) (.int .i64 (k : Int))
              have f817_118 := At.put (a := a816) (n := 118) (by rw [S816.1, hsN]; decide) (.int .i64 (k : Int))
              have S817 := S816.put (n := 118) (by decide) (by decide) (.int .i64 (k : Int))
              generalize a816.put (some 118) (.int .i64 (k : Int)) = a817 at S817 f817_2 f817_3 f817_4 f817_8 f817_10 f817_12 f817_13 f817_19 f817_118 ⊢
              refine list_val (v := (.int .i64 ((k + 1 : Nat) : Int))) rfl (ex_next rfl f817_118 (by omega) _) ?_
              show wpList _ _ _ _ (a817.put (some 119) (.int .i64 ((k + 1 : Nat) : Int))) _
              have f818_2 := f817_2.ne (n := 119) (by decide) (.int .i64 ((k + 1 : Nat) : Int))
              have f818_3 := f817_3.ne (n := 119) (by decide) (.int .i64 ((k + 1 : Nat) : Int))
              have f818_4 := f817_4.ne (n := 119) (by decide) (.int .i64 ((k + 1 : Nat) : Int))
              have f818_8 := f817_8.ne (n := 119) (by decide) (.int .i64 ((k + 1 : Nat) : Int))
              have f818_10 := f817_10.ne (n := 119) (by decide) (.int .i64 ((k + 1 : Nat) : Int))
              have f818_12 := f817_12.ne (n := 119) (by decide) (.int .i64 ((k + 1 : Nat) : Int))
              have f818_13 := f817_13.ne (n := 119) (by decide) (.int .i64 ((k + 1 : Nat) : Int))
              have f818_19 := f817_19.ne (n := 119) (by decide) (.int .i64 ((k + 1 : Nat) : Int))
              have f818_119 := At.put (a := a817) (n := 119) (by rw [S817.1, hsN]; decide) (.int .i64 ((k + 1 : Nat) : Int))
              have S818 := S817.put (n := 119) (by decide) (by decide) (.int .i64 ((k + 1 : Nat) : Int))
              generalize a817.put (some 119) (.int .i64 ((k + 1 : Nat) : Int)) = a818 at S818 f818_2 f818_3 f818_4 f818_8 f818_10 f818_12 f818_13 f818_19 f818_119 ⊢
              refine list_val (v := (.int .i64 ((k + 1 : Nat) : Int))) rfl (ex_assign rfl f818_119.eval _) ?_
              show wpList _ _ _ _ (a818.put (some 19) (.int .i64 ((k + 1 : Nat) : Int))) _
              have f819_2 := f818_2.ne (n := 19) (by decide) (.int .i64 ((k + 1 : Nat) : Int))
              have f819_3 := f818_3.ne (n := 19) (by decide) (.int .i64 ((k + 1 : Nat) : Int))
              have f819_4 := f818_4.ne (n := 19) (by decide) (.int .i64 ((k + 1 : Nat) : Int))
              have f819_8 := f818_8.ne (n := 19) (by decide) (.int .i64 ((k + 1 : Nat) : Int))
              have f819_10 := f818_10.ne (n := 19) (by decide) (.int .i64 ((k + 1 : Nat) : Int))
              have f819_12 := f818_12.ne (n := 19) (by decide) (.int .i64 ((k + 1 : Nat) : Int))
              have f819_13 := f818_13.ne (n := 19) (by decide) (.int .i64 ((k + 1 : Nat) : Int))
              have f819_19 := At.put (a := a818) (n := 19) (by rw [S818.1, hsN]; decide) (.int .i64 ((k + 1 : Nat) : Int))
              have S819 := S818.put (n := 19) (by decide) (by decide) (.int .i64 ((k + 1 : Nat) : Int))
              generalize a818.put (some 19) (.int .i64 ((k + 1 : Nat) : Int)) = a819 at S819 f819_2 f819_3 f819_4 f819_8 f819_10 f819_12 f819_13 f819_19 ⊢
              refine wpList_nil ?_
              refine (⟨⟨k + 1, l.set k (g h k ^^^ g (roundsL m 10 (startL h count last)) k ^^^ g (roundsL m 10 (startL h count last)) (k + 8)), by omega, f819_19, by simp [hl], fun j hj => ?_, fun j hj => ?_, ⟨by rw [S819.1, hsN], by rw [S819.2.1, hdf], f819_2, f819_3, f819_4, f819_8, f819_10, f819_12, f819_13, hA2, hR2, hM2, hI2, hV2, hB2⟩⟩, ?_⟩ : RI8 w h m count last G Ib V (roundsL m 10 (startL h count last)) a819 _ ∧ MUR 19 8 a819 _ < 8 - k)
              · rw [g_set _ _ _ _ (by omega)]
                by_cases hjk : k = j
                · subst hjk; rw [if_pos rfl, BitVec.xor_assoc]
                · rw [if_neg hjk, hl1 j (by omega)]
              · rw [g_set _ _ _ _ (by omega), if_neg (by omega), hl2 j (by omega)]
              · unfold MUR
                rw [f819_19.eval]
                simp only [intOf]
                omega
            · obtain rfl : k = 8 := by omega
              rw [decide_eq_false hlt] at f802_117
              refine wp_cond_false f802_117.eval ?_
              refine wp_exit ?_
              show RJ w h m count last G Ib V (cmpL h block.data.toList count last) (roundsL m 10 (startL h count last)) a802 wr
              rw [hVe] at hl1
              rw [cmp_of hl hl1] at hA
              exact ⟨by rw [S802.1, hsN], by rw [S802.2.1, hdf], f802_2, f802_3, f802_4, f802_8, f802_10, f802_12, f802_13, hA, hR, hM, hI, hV, hB⟩
          · clear hJ0
            rintro a wr ⟨hsN, hdf, y2, y3, y4, y8, y10, y12, y13, hA, hR, hM, hI, hV, hB⟩
            have S0 := Same.refl a 0 1000
            obtain ⟨C, hC⟩ : ∃ C, cmpL h block.data.toList count last = C := ⟨_, rfl⟩
            have hCl : C.length = 8 := by rw [← hC, cmpL_len]
            rw [hC] at hA
            have hR9 := setRow_heap _ (G + 1) _ (wvs C).toArray _ _ hR
            have hB9 := below_setRow hB (show w.heap.size ≤ G + 1 by omega) (wvs C).toArray
            refine wp_seq ?_
            refine wp_region_lit ?_
            refine list_val (v := (av C)) rfl (ex_loadrow rfl y4.eval hA Tryd.underlying32 (ir8 C hCl)) ?_
            show wpList _ _ _ _ (a.put (some 134) (av C)) _
            have f901_2 := y2.ne (n := 134) (by decide) (av C)
            have f901_3 := y3.ne (n := 134) (by decide) (av C)
            have f901_4 := y4.ne (n := 134) (by decide) (av C)
            have f901_8 := y8.ne (n := 134) (by decide) (av C)
            have f901_10 := y10.ne (n := 134) (by decide) (av C)
            have f901_12 := y12.ne (n := 134) (by decide) (av C)
            have f901_13 := y13.ne (n := 134) (by decide) (av C)
            have f901_134 := At.put (a := a) (n := 134) (by rw [S0.1, hsN]; decide) (av C)
            have S901 := S0.put (n := 134) (by decide) (by decide) (av C)
            generalize a.put (some 134) (av C) = a901 at S901 f901_2 f901_3 f901_4 f901_8 f901_10 f901_12 f901_13 f901_134 ⊢
            refine list_skip (w' := wr.setRow (G + 1) (wvs C).toArray) rfl rfl (ex_storerow rfl f901_8.eval f901_134.eval hR (ir8 C hCl) (by simp [wvs_len, hCl]; rfl) (wvs_one _)) ?_
            refine list_val (v := (.int .i64 0)) rfl (ex_assign (v := .int .i64 0) rfl rfl _) ?_
            show wpList _ _ _ _ (a901.put (some 9) (.int .i64 0)) _
            have f902_2 := f901_2.ne (n := 9) (by decide) (.int .i64 0)
            have f902_3 := f901_3.ne (n := 9) (by decide) (.int .i64 0)
            have f902_4 := f901_4.ne (n := 9) (by decide) (.int .i64 0)
            have f902_8 := f901_8.ne (n := 9) (by decide) (.int .i64 0)
            have f902_10 := f901_10.ne (n := 9) (by decide) (.int .i64 0)
            have f902_12 := f901_12.ne (n := 9) (by decide) (.int .i64 0)
            have f902_13 := f901_13.ne (n := 9) (by decide) (.int .i64 0)
            have f902_9 := At.put (a := a901) (n := 9) (by rw [S901.1, hsN]; decide) (.int .i64 0)
            have S902 := S901.put (n := 9) (by decide) (by decide) (.int .i64 0)
            generalize a901.put (some 9) (.int .i64 0) = a902 at S902 f902_2 f902_3 f902_4 f902_8 f902_10 f902_12 f902_13 f902_9 ⊢
            refine wpList_nil ?_
            refine wp_ret ?_
            exact bodyPost_ret (results_cell_tmp rfl _ _ (G + 1) 32 _ (0, 0) _ _ f902_8.eval f902_9.eval hR9 Tryd.underlying32 rfl (ir8 C hCl)) (S902.2.1.trans hdf) ⟨by rw [hC], hB9⟩

end Go.Proofs.YtkppepdniehoiaaDoor.B4
