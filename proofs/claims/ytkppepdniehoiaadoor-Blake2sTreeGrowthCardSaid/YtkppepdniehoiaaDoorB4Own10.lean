/- The contract of the landed package's Sum. -/
import Derived.Test.YtkppepdniehoiaaDoorB4Sum1
namespace Go.Proofs.YtkppepdniehoiaaDoor.B4
open Go.RowKit Mem
set_option linter.unusedVariables false
set_option linter.unusedSimpArgs false

def INS (w : World) (l : List (List UInt8)) (A : Option Addr) (cap G : Nat) (a : Act) (wr : World) : Prop :=
  ∃ (k c q f : Nat) (blk : List UInt8), k ≤ l.length ∧ a.tmps.size = 52 ∧ a.defers = [] ∧ At a 3 (.pointer (some ⟨G, 0, none⟩)) ∧ At a 4 (.pointer (some ⟨G + 1, 0, none⟩)) ∧ At a 5 (.int .i64 (f : Int)) ∧ At a 6 (.int .u64 (c : Int)) ∧
    At a 15 (.slice A l.length cap) ∧ At a 16 (.int .i64 (l.length : Int)) ∧ At a 17 (.int .i64 (k : Int)) ∧ l.flatten.drop c = (l.drop k).flatten ∧ (q = 0 ∨ 0 < f) ∧ St l.flatten c q f blk ∧
    Arr 32 wr G (hq l.flatten q) ∧ Aby 44 wr (G + 1) blk ∧ Below w.heap.size w wr
def MUS (n : Nat) (a : Act) (_ : World) : Nat := n - (intOf (a.eval (.tmp 17))).toNat
def INT (w : World) (l : List (List UInt8)) (A : Option Addr) (cap G k : Nat) (a : Act) (wr : World) : Prop :=
  ∃ (c q f : Nat) (blk : List UInt8) (s : ByteArray), a.tmps.size = 52 ∧ a.defers = [] ∧ At a 3 (.pointer (some ⟨G, 0, none⟩)) ∧ At a 4 (.pointer (some ⟨G + 1, 0, none⟩)) ∧ At a 5 (.int .i64 (f : Int)) ∧ At a 6 (.int .u64 (c : Int)) ∧ At a 8 (.string s) ∧
    At a 15 (.slice A l.length cap) ∧ At a 16 (.int .i64 (l.length : Int)) ∧ At a 17 (.int .i64 (k : Int)) ∧ l.flatten.drop c = s.data.toList ++ (l.drop (k + 1)).flatten ∧ (q = 0 ∨ 0 < f) ∧ St l.flatten c q f blk ∧
    Arr 32 wr G (hq l.flatten q) ∧ Aby 44 wr (G + 1) blk ∧ Below w.heap.size w wr
def MUT (a : Act) (_ : World) : Nat := strLen (a.eval (.tmp 8))
theorem totl_flatten (l : List (List UInt8)) : l.flatten.length = totl l := by
  simp [totl, List.length_flatten]

theorem wp_seq_then {P : Program} {x y : Code} {Q : Exit → Act → World → Prop} {a : Act} {w : World} (J : Act → World → Prop) (h1 : x.wp P (Exit.then J Q) a w) (h2 : ∀ a w, J a w → y.wp P Q a w) : (Code.seq x y).wp P Q a w :=
  wp_seq (wp_mono h1 (fun e a w h => by
    cases e <;> first | exact h2 _ _ h | exact h))
theorem results_at {fn : Func} {t : Tmp} (h : fn.results = #[.tmp t]) {a : Act} {v : Value} (hv : At a t v) (P : Program) (w : World) : (results fn a.tmps).run P w = .ok v w := by
  rw [results_tmp h, show a.tmps.getD t undef = v from hv.eval]
def JC (w : World) (l : List (List UInt8)) (A : Option Addr) (cap G k c : Nat) (s : ByteArray) (a : Act) (wr : World) : Prop :=
  ∃ (q f : Nat) (blk : List UInt8), a.tmps.size = 52 ∧ a.defers = [] ∧ At a 3 (.pointer (some ⟨G, 0, none⟩)) ∧ At a 4 (.pointer (some ⟨G + 1, 0, none⟩)) ∧ At a 5 (.int .i64 (f : Int)) ∧ At a 6 (.int .u64 (c : Int)) ∧ At a 8 (.string s) ∧
    At a 15 (.slice A l.length cap) ∧ At a 16 (.int .i64 (l.length : Int)) ∧ At a 17 (.int .i64 (k : Int)) ∧ f < 64 ∧ St l.flatten c q f blk ∧
    Arr 32 wr G (hq l.flatten q) ∧ Aby 44 wr (G + 1) blk ∧ Below w.heap.size w wr
def JD (w : World) (l : List (List UInt8)) (G q c : Nat) (a : Act) (wr : World) : Prop :=
  a.tmps.size = 52 ∧ a.defers = [] ∧ At a 3 (.pointer (some ⟨G, 0, none⟩)) ∧ At a 4 (.pointer (some ⟨G + 1, 0, none⟩)) ∧ At a 6 (.int .u64 (c : Int)) ∧
    Arr 32 wr G (hq l.flatten q) ∧ Aby 44 wr (G + 1) (pad (l.flatten.drop (64 * q))) ∧ Below w.heap.size w wr
theorem bys_hi (l : List UInt8) (h : l.length = 64) : (Tryd.prog.info? 44).map (·.size) = some (bys l).toArray.size := by
  have : (Tryd.prog.info? 44).map (·.size) = some 64 := by kernel_rfl
  rw [this]
  simp [bys_len, h]
theorem drop_cons (l : List (List UInt8)) (k : Nat) (h : k < l.length) : (l.drop k).flatten = l[k] ++ (l.drop (k + 1)).flatten := by
  rw [List.drop_eq_getElem_cons h, List.flatten_cons]

set_option maxRecDepth 100000 in
set_option maxHeartbeats 4000000 in
theorem osum_any (A : Option Addr) (cap : Nat) (l : List (List UInt8)) (w : World) (ht : totl l ≤ 1000000) (hll : l.length ≤ 1000000) (hlc : l.length ≤ cap) (hcap : cap ≤ 9223372036854775807) (hRd : Rd w A (strVs l)) (hL : Laid w) :
    Calls Tryd.prog 13 #[.slice A l.length cap] w fun e w' => e = .returned (.string ⟨(digL l.flatten).toArray⟩) ∧ Below w.heap.size w w' := by
  obtain ⟨tI, frI, hI⟩ := block_of_var gInit hL.1
  have htl := totl_flatten l
  have hz8 : ∀ l : List R, l.length = 8 → (Tryd.prog.info? 32).map (·.size) = some (wvs l).toArray.size := fun l hl => by rw [info_8w]; simp [wvs_len, hl]
  have hz64 : ∀ l : List UInt8, l.length = 64 → (Tryd.prog.info? 44).map (·.size) = some (bys l).toArray.size := fun l hl => by
    have : (Tryd.prog.info? 44).map (·.size) = some 64 := by kernel_rfl
    rw [this]; simp [bys_len, hl]
  have hA0 : Arr 32 (w.alloc (.cells #[.int .u32 0, .int .u32 0, .int .u32 0, .int .u32 0, .int .u32 0, .int .u32 0, .int .u32 0, .int .u32 0] 32)) w.heap.size zeros8 := arr_new _ zeros8 _
  have hA1 : Arr 32 ((w.alloc (.cells #[.int .u32 0, .int .u32 0, .int .u32 0, .int .u32 0, .int .u32 0, .int .u32 0, .int .u32 0, .int .u32 0] 32)).setRow w.heap.size (wvs ivL).toArray) w.heap.size ivL := setRow_heap _ _ _ (wvs ivL).toArray _ _ hA0
  have hb1 := below_setRow ((Below.refl w.heap.size w).alloc (Nat.le_refl _) (.cells #[.int .u32 0, .int .u32 0, .int .u32 0, .int .u32 0, .int .u32 0, .int .u32 0, .int .u32 0, .int .u32 0] 32)) (Nat.le_refl _) (wvs ivL).toArray
  have e1 : ((w.alloc (.cells #[.int .u32 0, .int .u32 0, .int .u32 0, .int .u32 0, .int .u32 0, .int .u32 0, .int .u32 0, .int .u32 0] 32)).setRow w.heap.size (wvs ivL).toArray).cell? ⟨w.heap.size, 0, none⟩ = some (.int .u32 1779033703) := hA1.cell 0 (by decide)
  have e2 : ((w.alloc (.cells #[.int .u32 0, .int .u32 0, .int .u32 0, .int .u32 0, .int .u32 0, .int .u32 0, .int .u32 0, .int .u32 0] 32)).setRow w.heap.size (wvs ivL).toArray).frozen? ⟨w.heap.size, 0, none⟩ = false := hA1.froz 0
  have e3 : bits .xor .u32 1779033703 16842784 = 1795745351 := by decide
  have hA2 : Arr 32 (((w.alloc (.cells #[.int .u32 0, .int .u32 0, .int .u32 0, .int .u32 0, .int .u32 0, .int .u32 0, .int .u32 0, .int .u32 0] 32)).setRow w.heap.size (wvs ivL).toArray).setCell ⟨w.heap.size, 0, none⟩ (.int .u32 1795745351)) w.heap.size h0L := hA1.set 0 1795745351#32
  have hb2 := hb1.setCell (p := ⟨w.heap.size, 0, none⟩) (Nat.le_refl _) (.int .u32 1795745351)
  have hA3 := arr_old hA2 (.cells (bys zeros64).toArray 44)
  have hK3 := heap_alloc_new (((w.alloc (.cells #[.int .u32 0, .int .u32 0, .int .u32 0, .int .u32 0, .int .u32 0, .int .u32 0, .int .u32 0, .int .u32 0] 32)).setRow w.heap.size (wvs ivL).toArray).setCell ⟨w.heap.size, 0, none⟩ (.int .u32 1795745351)) (.cells (bys zeros64).toArray 44)
  rw [show (((w.alloc (.cells #[.int .u32 0, .int .u32 0, .int .u32 0, .int .u32 0, .int .u32 0, .int .u32 0, .int .u32 0, .int .u32 0] 32)).setRow w.heap.size (wvs ivL).toArray).setCell ⟨w.heap.size, 0, none⟩ (.int .u32 1795745351)).heap.size = w.heap.size + 1 by simp [World.setRow]] at hK3
  have hb3 := hb2.alloc hb2.size (.cells (bys zeros64).toArray 44)
  have hK3' : Aby 44 ((((w.alloc (.cells #[.int .u32 0, .int .u32 0, .int .u32 0, .int .u32 0, .int .u32 0, .int .u32 0, .int .u32 0, .int .u32 0] 32)).setRow w.heap.size (wvs ivL).toArray).setCell ⟨w.heap.size, 0, none⟩ (.int .u32 1795745351)).alloc (.cells (bys zeros64).toArray 44)) (w.heap.size + 1) zeros64 := hK3
  clear hA1 hb1 hA2 hb2 hK3
  go_enter Tryd.func13, Tryd.ntmps13
  go_wp2_with (first
    | (refine wpList_load_row rfl 32 (.global 0) rfl 0 rfl tI _ frI _ hI Tryd.underlying32 rfl (hz8 ivL rfl) ?_)
    | (refine wpList_store_row rfl 32 (.tmp 3) (.tmp 10) rfl w.heap.size (wvs ivL).toArray rfl rfl 32 _ hA0 (hz8 ivL rfl) rfl (wvs_one _) ?_))
  rename_i Qf Kf hKf
  obtain ⟨G, hG⟩ : ∃ G, w.heap.size = G := ⟨_, rfl⟩
  have hGle : w.heap.size ≤ G := by omega
  clear e1 e2 e3 hA0 hI
  refine wp_loop (INS w l A cap G) (MUS l.length) ⟨0, 0, 0, 0, zeros64, by omega, rfl, rfl, by rw [← hG]; rfl, by rw [← hG]; rfl, rfl, rfl, rfl, rfl, rfl, by simp, .inl rfl, ⟨rfl, by omega, rfl, by omega, by simp⟩, by rw [← hG]; exact hA3, by rw [← hG]; exact hK3', hb3⟩ (fun a wr hI => ?_)
  clear hA3 hK3' hb3
  obtain ⟨k, c, q, f, blk, hk, hsz, hdf, h3, h4, h5, h6, h15, h16, h17, hdrop, hq0, hst, hA, hK, hB⟩ := hI
  have hmu : MUS l.length a wr = l.length - k := by unfold MUS; rw [h17.eval]; simp [intOf]
  rw [hmu]
  clear hmu
  refine wp_seq ?_
  refine wp_region_lit ?_
  refine list_val rfl (ex_less2 rfl h17 h16 _) ?_
  refine wpList_nil ?_
  show Code.wp _ _ _ (a.put (some 18) (.bool (decide (k < l.length)))) wr
  have S0 := (Same.refl a 0 1000).put (n := 18) (by omega) (by omega) (.bool (decide (k < l.length)))
  have hcond := At.put (a := a) (n := 18) (by omega) (.bool (decide (k < l.length)))
  by_cases hlt : k < l.length
  · rw [decide_eq_true hlt] at S0 hcond ⊢
    have y3 := h3.ne (n := 18) (by decide) (.bool true)
    have y4 := h4.ne (n := 18) (by decide) (.bool true)
    have y5 := h5.ne (n := 18) (by decide) (.bool true)
    have y6 := h6.ne (n := 18) (by decide) (.bool true)
    have y15 := h15.ne (n := 18) (by decide) (.bool true)
    have y16 := h16.ne (n := 18) (by decide) (.bool true)
    have y17 := h17.ne (n := 18) (by decide) (.bool true)
    generalize a.put (some 18) (.bool true) = a0 at S0 hcond y3 y4 y5 y6 y15 y16 y17 ⊢
    refine wp_seq ?_
    refine wp_cond_true hcond.eval ?_
    refine wp_skip ?_
    show Code.wp _ _ _ a0 wr
    refine wp_seq ?_
    refine wp_block ?_
    refine wp_seq ?_
    refine wp_region_lit ?_
    obtain ⟨b, of, hAe, hbs, hcell⟩ := (hRd.below hB) k (by rw [strVs_len]; exact hlt)
    rw [strV_get l k hlt] at hcell
    rw [drop_cons l k hlt] at hdrop
    have hs52 := hsz
    subst hAe
    refine list_val rfl (ex_idxStr rfl y15.eval y17.eval hlt _) ?_
    show wpList _ _ _ _ (a0.put (some 19) (.pointer (some ⟨b, of + k, none⟩))) _
    have f1_3 := y3.ne (n := 19) (by decide) (.pointer (some ⟨b, of + k, none⟩))
    have f1_4 := y4.ne (n := 19) (by decide) (.pointer (some ⟨b, of + k, none⟩))
    have f1_5 := y5.ne (n := 19) (by decide) (.pointer (some ⟨b, of + k, none⟩))
    have f1_6 := y6.ne (n := 19) (by decide) (.pointer (some ⟨b, of + k, none⟩))
    have f1_15 := y15.ne (n := 19) (by decide) (.pointer (some ⟨b, of + k, none⟩))
    have f1_16 := y16.ne (n := 19) (by decide) (.pointer (some ⟨b, of + k, none⟩))
    have f1_17 := y17.ne (n := 19) (by decide) (.pointer (some ⟨b, of + k, none⟩))
    have f1_19 := At.put (a := a0) (n := 19) (by rw [S0.1, hs52]; decide) (.pointer (some ⟨b, of + k, none⟩))
    have S1 := S0.put (n := 19) (by decide) (by decide) (.pointer (some ⟨b, of + k, none⟩))
    generalize a0.put (some 19) (.pointer (some ⟨b, of + k, none⟩)) = a1 at S1 f1_3 f1_4 f1_5 f1_6 f1_15 f1_16 f1_17 f1_19 ⊢
    refine list_val rfl (ex_loadStr rfl f1_19.eval hcell) ?_
    show wpList _ _ _ _ (a1.put (some 20) (.string ⟨(l[k]).toArray⟩)) _
    have f2_3 := f1_3.ne (n := 20) (by decide) (.string ⟨(l[k]).toArray⟩)
    have f2_4 := f1_4.ne (n := 20) (by decide) (.string ⟨(l[k]).toArray⟩)
    have f2_5 := f1_5.ne (n := 20) (by decide) (.string ⟨(l[k]).toArray⟩)
    have f2_6 := f1_6.ne (n := 20) (by decide) (.string ⟨(l[k]).toArray⟩)
    have f2_15 := f1_15.ne (n := 20) (by decide) (.string ⟨(l[k]).toArray⟩)
    have f2_16 := f1_16.ne (n := 20) (by decide) (.string ⟨(l[k]).toArray⟩)
    have f2_17 := f1_17.ne (n := 20) (by decide) (.string ⟨(l[k]).toArray⟩)
    have f2_20 := At.put (a := a1) (n := 20) (by rw [S1.1, hs52]; decide) (.string ⟨(l[k]).toArray⟩)
    have S2 := S1.put (n := 20) (by decide) (by decide) (.string ⟨(l[k]).toArray⟩)
    generalize a1.put (some 20) (.string ⟨(l[k]).toArray⟩) = a2 at S2 f2_3 f2_4 f2_5 f2_6 f2_15 f2_16 f2_17 f2_20 ⊢
    refine list_val rfl (ex_assign rfl f2_20.eval _) ?_
    show wpList _ _ _ _ (a2.put (some 8) (.string ⟨(l[k]).toArray⟩)) _
    have f3_3 := f2_3.ne (n := 8) (by decide) (.string ⟨(l[k]).toArray⟩)
    have f3_4 := f2_4.ne (n := 8) (by decide) (.string ⟨(l[k]).toArray⟩)
    have f3_5 := f2_5.ne (n := 8) (by decide) (.string ⟨(l[k]).toArray⟩)
    have f3_6 := f2_6.ne (n := 8) (by decide) (.string ⟨(l[k]).toArray⟩)
    have f3_15 := f2_15.ne (n := 8) (by decide) (.string ⟨(l[k]).toArray⟩)
    have f3_16 := f2_16.ne (n := 8) (by decide) (.string ⟨(l[k]).toArray⟩)
    have f3_17 := f2_17.ne (n := 8) (by decide) (.string ⟨(l[k]).toArray⟩)
    have f3_8 := At.put (a := a2) (n := 8) (by rw [S2.1, hs52]; decide) (.string ⟨(l[k]).toArray⟩)
    have S3 := S2.put (n := 8) (by decide) (by decide) (.string ⟨(l[k]).toArray⟩)
    generalize a2.put (some 8) (.string ⟨(l[k]).toArray⟩) = a3 at S3 f3_3 f3_4 f3_5 f3_6 f3_15 f3_16 f3_17 f3_8 ⊢
    refine wpList_nil ?_
    show Code.wp _ _ _ a3 wr
    refine wp_block ?_
    refine wp_loop (INT w l (some ⟨b, of, none⟩) cap G k) MUT ⟨c, q, f, blk, ⟨(l[k]).toArray⟩, by rw [S3.1, hs52], by rw [S3.2.1, hdf], f3_3, f3_4, f3_5, f3_6, f3_8, f3_15, f3_16, f3_17, hdrop, hq0, hst, hA, hK, hB⟩ (fun a wr hI => ?_)
    clear S3 f3_3 f3_4 f3_5 f3_6 f3_15 f3_16 f3_17 f3_8 hcond hdrop hq0 hst hA hK hB hcell hbs hsz hdf h3 h4 h5 h6 h15 h16 h17
    clear hs52
    obtain ⟨c, q, f, blk, s, hsz, hdf, h3, h4, h5, h6, h8, h15, h16, h17, hdrop, hq0, hst, hA, hK, hB⟩ := hI
    have hs52 := hsz
    have hmu : MUT a wr = s.size := by unfold MUT; rw [h8.eval]; rfl
    rw [hmu]
    clear hmu
    refine wp_seq ?_
    refine wp_seq ?_
    refine wp_region_lit ?_
    have S0 := Same.refl a 0 1000
    refine list_val rfl (ex_move rfl h8.eval _) ?_
    show wpList _ _ _ _ (a.put (some 21) (.string s)) _
    have f4_3 := h3.ne (n := 21) (by decide) (.string s)
    have f4_4 := h4.ne (n := 21) (by decide) (.string s)
    have f4_5 := h5.ne (n := 21) (by decide) (.string s)
    have f4_6 := h6.ne (n := 21) (by decide) (.string s)
    have f4_8 := h8.ne (n := 21) (by decide) (.string s)
    have f4_15 := h15.ne (n := 21) (by decide) (.string s)
    have f4_16 := h16.ne (n := 21) (by decide) (.string s)
    have f4_17 := h17.ne (n := 21) (by decide) (.string s)
    have f4_21 := At.put (a := a) (n := 21) (by rw [S0.1, hs52]; decide) (.string s)
    have S4 := S0.put (n := 21) (by decide) (by decide) (.string s)
    generalize a.put (some 21) (.string s) = a4 at S4 f4_3 f4_4 f4_5 f4_6 f4_8 f4_15 f4_16 f4_17 f4_21 ⊢
    refine list_val rfl (ex_lenStr rfl f4_21 _) ?_
    show wpList _ _ _ _ (a4.put (some 22) (.int .i64 (s.size : Int))) _
    have f5_3 := f4_3.ne (n := 22) (by decide) (.int .i64 (s.size : Int))
    have f5_4 := f4_4.ne (n := 22) (by decide) (.int .i64 (s.size : Int))
    have f5_5 := f4_5.ne (n := 22) (by decide) (.int .i64 (s.size : Int))
    have f5_6 := f4_6.ne (n := 22) (by decide) (.int .i64 (s.size : Int))
    have f5_8 := f4_8.ne (n := 22) (by decide) (.int .i64 (s.size : Int))
    have f5_15 := f4_15.ne (n := 22) (by decide) (.int .i64 (s.size : Int))
    have f5_16 := f4_16.ne (n := 22) (by decide) (.int .i64 (s.size : Int))
    have f5_17 := f4_17.ne (n := 22) (by decide) (.int .i64 (s.size : Int))
    have f5_22 := At.put (a := a4) (n := 22) (by rw [S4.1, hs52]; decide) (.int .i64 (s.size : Int))
    have S5 := S4.put (n := 22) (by decide) (by decide) (.int .i64 (s.size : Int))
    generalize a4.put (some 22) (.int .i64 (s.size : Int)) = a5 at S5 f5_3 f5_4 f5_5 f5_6 f5_8 f5_15 f5_16 f5_17 f5_22 ⊢
    refine list_val rfl (ex_pos rfl f5_22 _) ?_
    show wpList _ _ _ _ (a5.put (some 23) (.bool (decide (0 < s.size)))) _
    have f6_3 := f5_3.ne (n := 23) (by decide) (.bool (decide (0 < s.size)))
    have f6_4 := f5_4.ne (n := 23) (by decide) (.bool (decide (0 < s.size)))
    have f6_5 := f5_5.ne (n := 23) (by decide) (.bool (decide (0 < s.size)))
    have f6_6 := f5_6.ne (n := 23) (by decide) (.bool (decide (0 < s.size)))
    have f6_8 := f5_8.ne (n := 23) (by decide) (.bool (decide (0 < s.size)))
    have f6_15 := f5_15.ne (n := 23) (by decide) (.bool (decide (0 < s.size)))
    have f6_16 := f5_16.ne (n := 23) (by decide) (.bool (decide (0 < s.size)))
    have f6_17 := f5_17.ne (n := 23) (by decide) (.bool (decide (0 < s.size)))
    have f6_23 := At.put (a := a5) (n := 23) (by rw [S5.1, hs52]; decide) (.bool (decide (0 < s.size)))
    have S6 := S5.put (n := 23) (by decide) (by decide) (.bool (decide (0 < s.size)))
    generalize a5.put (some 23) (.bool (decide (0 < s.size))) = a6 at S6 f6_3 f6_4 f6_5 f6_6 f6_8 f6_15 f6_16 f6_17 f6_23 ⊢
    refine wpList_nil ?_
    show Code.wp _ _ _ a6 wr
    have hl0 := congrArg List.length hdrop
    simp only [List.length_drop, List.length_append] at hl0
    rw [htl, show s.data.toList.length = s.size from rfl] at hl0
    have hca := hst.all
    rw [htl] at hca
    by_cases hpos : 0 < s.size
    · rw [decide_eq_true hpos] at f6_23
      refine wp_cond_true f6_23.eval ?_
      refine wp_skip ?_
      show Code.wp _ _ _ a6 wr
      refine wp_block ?_
      refine wp_seq_then (JC w l (some ⟨b, of, none⟩) cap G k c s) ?_ ?_
      · refine wp_seq ?_
        refine wp_region_lit ?_
        refine list_val rfl (ex_move rfl f6_5.eval _) ?_
        show wpList _ _ _ _ (a6.put (some 24) (.int .i64 (f : Int))) _
        have f7_3 := f6_3.ne (n := 24) (by decide) (.int .i64 (f : Int))
        have f7_4 := f6_4.ne (n := 24) (by decide) (.int .i64 (f : Int))
        have f7_5 := f6_5.ne (n := 24) (by decide) (.int .i64 (f : Int))
        have f7_6 := f6_6.ne (n := 24) (by decide) (.int .i64 (f : Int))
        have f7_8 := f6_8.ne (n := 24) (by decide) (.int .i64 (f : Int))
        have f7_15 := f6_15.ne (n := 24) (by decide) (.int .i64 (f : Int))
        have f7_16 := f6_16.ne (n := 24) (by decide) (.int .i64 (f : Int))
        have f7_17 := f6_17.ne (n := 24) (by decide) (.int .i64 (f : Int))
        have f7_24 := At.put (a := a6) (n := 24) (by rw [S6.1, hs52]; decide) (.int .i64 (f : Int))
        have S7 := S6.put (n := 24) (by decide) (by decide) (.int .i64 (f : Int))
        generalize a6.put (some 24) (.int .i64 (f : Int)) = a7 at S7 f7_3 f7_4 f7_5 f7_6 f7_8 f7_15 f7_16 f7_17 f7_24 ⊢
        refine list_val rfl (ex_is64 rfl f7_24 _) ?_
        show wpList _ _ _ _ (a7.put (some 25) (.bool (decide (f = 64)))) _
        have f8_3 := f7_3.ne (n := 25) (by decide) (.bool (decide (f = 64)))
        have f8_4 := f7_4.ne (n := 25) (by decide) (.bool (decide (f = 64)))
        have f8_5 := f7_5.ne (n := 25) (by decide) (.bool (decide (f = 64)))
        have f8_6 := f7_6.ne (n := 25) (by decide) (.bool (decide (f = 64)))
        have f8_8 := f7_8.ne (n := 25) (by decide) (.bool (decide (f = 64)))
        have f8_15 := f7_15.ne (n := 25) (by decide) (.bool (decide (f = 64)))
        have f8_16 := f7_16.ne (n := 25) (by decide) (.bool (decide (f = 64)))
        have f8_17 := f7_17.ne (n := 25) (by decide) (.bool (decide (f = 64)))
        have f8_25 := At.put (a := a7) (n := 25) (by rw [S7.1, hs52]; decide) (.bool (decide (f = 64)))
        have S8 := S7.put (n := 25) (by decide) (by decide) (.bool (decide (f = 64)))
        generalize a7.put (some 25) (.bool (decide (f = 64))) = a8 at S8 f8_3 f8_4 f8_5 f8_6 f8_8 f8_15 f8_16 f8_17 f8_25 ⊢
        refine wpList_nil ?_
        show Code.wp _ _ _ a8 wr
        by_cases hf64 : f = 64
        · subst hf64
          rw [decide_eq_true rfl] at f8_25
          refine wp_cond_true f8_25.eval ?_
          refine wp_seq ?_
          refine wp_region_lit ?_
          obtain ⟨hcm, hst2⟩ := hst.full
          refine list_val rfl (ex_loadrow rfl f8_3.eval hA Tryd.underlying32 (hz8 _ (hq_len _ _))) ?_
          show wpList _ _ _ _ (a8.put (some 26) (.agg (wvs (hq l.flatten q)).toArray)) _
          have f9_3 := f8_3.ne (n := 26) (by decide) (.agg (wvs (hq l.flatten q)).toArray)
          have f9_4 := f8_4.ne (n := 26) (by decide) (.agg (wvs (hq l.flatten q)).toArray)
          have f9_5 := f8_5.ne (n := 26) (by decide) (.agg (wvs (hq l.flatten q)).toArray)
          have f9_6 := f8_6.ne (n := 26) (by decide) (.agg (wvs (hq l.flatten q)).toArray)
          have f9_8 := f8_8.ne (n := 26) (by decide) (.agg (wvs (hq l.flatten q)).toArray)
          have f9_15 := f8_15.ne (n := 26) (by decide) (.agg (wvs (hq l.flatten q)).toArray)
          have f9_16 := f8_16.ne (n := 26) (by decide) (.agg (wvs (hq l.flatten q)).toArray)
          have f9_17 := f8_17.ne (n := 26) (by decide) (.agg (wvs (hq l.flatten q)).toArray)
          have f9_26 := At.put (a := a8) (n := 26) (by rw [S8.1, hs52]; decide) (.agg (wvs (hq l.flatten q)).toArray)
          have S9 := S8.put (n := 26) (by decide) (by decide) (.agg (wvs (hq l.flatten q)).toArray)
          generalize a8.put (some 26) (.agg (wvs (hq l.flatten q)).toArray) = a9 at S9 f9_3 f9_4 f9_5 f9_6 f9_8 f9_15 f9_16 f9_17 f9_26 ⊢
          refine list_val rfl (ex_loadrow rfl f9_4.eval hK Tryd.underlying44 (bys_hi _ hst.len)) ?_
          show wpList _ _ _ _ (a9.put (some 27) (.agg (bys blk).toArray)) _
          have f10_3 := f9_3.ne (n := 27) (by decide) (.agg (bys blk).toArray)
          have f10_4 := f9_4.ne (n := 27) (by decide) (.agg (bys blk).toArray)
          have f10_5 := f9_5.ne (n := 27) (by decide) (.agg (bys blk).toArray)
          have f10_6 := f9_6.ne (n := 27) (by decide) (.agg (bys blk).toArray)
          have f10_8 := f9_8.ne (n := 27) (by decide) (.agg (bys blk).toArray)
          have f10_15 := f9_15.ne (n := 27) (by decide) (.agg (bys blk).toArray)
          have f10_16 := f9_16.ne (n := 27) (by decide) (.agg (bys blk).toArray)
          have f10_17 := f9_17.ne (n := 27) (by decide) (.agg (bys blk).toArray)
          have f10_26 := f9_26.ne (n := 27) (by decide) (.agg (bys blk).toArray)
          have f10_27 := At.put (a := a9) (n := 27) (by rw [S9.1, hs52]; decide) (.agg (bys blk).toArray)
          have S10 := S9.put (n := 27) (by decide) (by decide) (.agg (bys blk).toArray)
          generalize a9.put (some 27) (.agg (bys blk).toArray) = a10 at S10 f10_3 f10_4 f10_5 f10_6 f10_8 f10_15 f10_16 f10_17 f10_26 f10_27 ⊢
          refine list_val rfl (ex_move rfl f10_6.eval _) ?_
          show wpList _ _ _ _ (a10.put (some 28) (.int .u64 (c : Int))) _
          have f11_3 := f10_3.ne (n := 28) (by decide) (.int .u64 (c : Int))
          have f11_4 := f10_4.ne (n := 28) (by decide) (.int .u64 (c : Int))
          have f11_5 := f10_5.ne (n := 28) (by decide) (.int .u64 (c : Int))
          have f11_6 := f10_6.ne (n := 28) (by decide) (.int .u64 (c : Int))
          have f11_8 := f10_8.ne (n := 28) (by decide) (.int .u64 (c : Int))
          have f11_15 := f10_15.ne (n := 28) (by decide) (.int .u64 (c : Int))
          have f11_16 := f10_16.ne (n := 28) (by decide) (.int .u64 (c : Int))
          have f11_17 := f10_17.ne (n := 28) (by decide) (.int .u64 (c : Int))
          have f11_26 := f10_26.ne (n := 28) (by decide) (.int .u64 (c : Int))
          have f11_27 := f10_27.ne (n := 28) (by decide) (.int .u64 (c : Int))
          have f11_28 := At.put (a := a10) (n := 28) (by rw [S10.1, hs52]; decide) (.int .u64 (c : Int))
          have S11 := S10.put (n := 28) (by decide) (by decide) (.int .u64 (c : Int))
          generalize a10.put (some 28) (.int .u64 (c : Int)) = a11 at S11 f11_3 f11_4 f11_5 f11_6 f11_8 f11_15 f11_16 f11_17 f11_26 f11_27 f11_28 ⊢
          have hcc := ocompress_any (hq l.flatten q) blk c false wr (hq_len _ _) hst.len (by omega) (hL.below hB)
          rw [hcm] at hcc
          refine list_enter (v := (.agg (wvs (hq l.flatten (q + 1))).toArray)) (R := fun w' => Below wr.heap.size wr w') rfl (ex_comp rfl f11_26 f11_27 f11_28 _) hcc (fun w1 hb1 => ?_)
          show wpList _ _ _ _ (a11.put (some 29) (.agg (wvs (hq l.flatten (q + 1))).toArray)) _
          have f12_3 := f11_3.ne (n := 29) (by decide) (.agg (wvs (hq l.flatten (q + 1))).toArray)
          have f12_4 := f11_4.ne (n := 29) (by decide) (.agg (wvs (hq l.flatten (q + 1))).toArray)
          have f12_5 := f11_5.ne (n := 29) (by decide) (.agg (wvs (hq l.flatten (q + 1))).toArray)
          have f12_6 := f11_6.ne (n := 29) (by decide) (.agg (wvs (hq l.flatten (q + 1))).toArray)
          have f12_8 := f11_8.ne (n := 29) (by decide) (.agg (wvs (hq l.flatten (q + 1))).toArray)
          have f12_15 := f11_15.ne (n := 29) (by decide) (.agg (wvs (hq l.flatten (q + 1))).toArray)
          have f12_16 := f11_16.ne (n := 29) (by decide) (.agg (wvs (hq l.flatten (q + 1))).toArray)
          have f12_17 := f11_17.ne (n := 29) (by decide) (.agg (wvs (hq l.flatten (q + 1))).toArray)
          have f12_29 := At.put (a := a11) (n := 29) (by rw [S11.1, hs52]; decide) (.agg (wvs (hq l.flatten (q + 1))).toArray)
          have S12 := S11.put (n := 29) (by decide) (by decide) (.agg (wvs (hq l.flatten (q + 1))).toArray)
          generalize a11.put (some 29) (.agg (wvs (hq l.flatten (q + 1))).toArray) = a12 at S12 f12_3 f12_4 f12_5 f12_6 f12_8 f12_15 f12_16 f12_17 f12_29 ⊢
          have hA1 := hA.below hb1
          have hK1 := Aby.below hK hb1
          have hB1 := chain hB hb1
          have hA2 := setRow_heap _ G _ (wvs (hq l.flatten (q + 1))).toArray _ _ hA1
          have hK2 := (setRow_other w1 G (G + 1) (wvs (hq l.flatten (q + 1))).toArray (by omega)).trans hK1
          have hB2 := below_setRow hB1 hGle (wvs (hq l.flatten (q + 1))).toArray
          refine list_skip rfl rfl (ex_storerow rfl f12_3.eval f12_29.eval hA1 (hz8 _ (hq_len _ _)) (by simp [wvs_len, hq_len]) (wvs_one _)) ?_
          refine wpList_nil ?_
          show Code.wp _ _ _ a12 _
          refine wp_region_lit ?_
          refine list_val rfl (ex_assign (v := .int .i64 ((0 : Nat) : Int)) rfl rfl _) ?_
          show wpList _ _ _ _ (a12.put (some 5) (.int .i64 ((0 : Nat) : Int))) _
          have f13_3 := f12_3.ne (n := 5) (by decide) (.int .i64 ((0 : Nat) : Int))
          have f13_4 := f12_4.ne (n := 5) (by decide) (.int .i64 ((0 : Nat) : Int))
          have f13_6 := f12_6.ne (n := 5) (by decide) (.int .i64 ((0 : Nat) : Int))
          have f13_8 := f12_8.ne (n := 5) (by decide) (.int .i64 ((0 : Nat) : Int))
          have f13_15 := f12_15.ne (n := 5) (by decide) (.int .i64 ((0 : Nat) : Int))
          have f13_16 := f12_16.ne (n := 5) (by decide) (.int .i64 ((0 : Nat) : Int))
          have f13_17 := f12_17.ne (n := 5) (by decide) (.int .i64 ((0 : Nat) : Int))
          have f13_5 := At.put (a := a12) (n := 5) (by rw [S12.1, hs52]; decide) (.int .i64 ((0 : Nat) : Int))
          have S13 := S12.put (n := 5) (by decide) (by decide) (.int .i64 ((0 : Nat) : Int))
          generalize a12.put (some 5) (.int .i64 ((0 : Nat) : Int)) = a13 at S13 f13_3 f13_4 f13_6 f13_8 f13_15 f13_16 f13_17 f13_5 ⊢
          refine wpList_nil ?_
          exact ⟨q + 1, 0, blk, by rw [S13.1, hs52], by rw [S13.2.1, hdf], f13_3, f13_4, f13_5, f13_6, f13_8, f13_15, f13_16, f13_17, by omega, hst2, hA2, hK2, hB2⟩
        · have hf : f < 64 := by have := hst.le; omega
          rw [decide_eq_false hf64] at f8_25
          refine wp_cond_false f8_25.eval ?_
          refine wp_skip ?_
          exact ⟨q, f, blk, by rw [S8.1, hs52], by rw [S8.2.1, hdf], f8_3, f8_4, f8_5, f8_6, f8_8, f8_15, f8_16, f8_17, hf, hst, hA, hK, hB⟩
      · clear hst hA hK hB hq0 S0 hsz hdf h3 h4 h5 h6 h8 h15 h16 h17 hs52
        intro a wr hJ
        obtain ⟨q, f, blk, hs52, hdf, h3, h4, h5, h6, h8, h15, h16, h17, hf, hst, hA, hK, hB⟩ := hJ
        obtain ⟨n, hn⟩ : ∃ n, min s.data.toList.length (64 - f) = n := ⟨_, rfl⟩
        have hnn : Nat.min s.size (64 - f) = n := hn
        have hn0 : 0 < n ∧ n ≤ s.size ∧ n ≤ 64 - f := by rw [show s.data.toList.length = s.size from rfl] at hn; omega
        obtain ⟨hn0, hns, hn64⟩ := hn0
        obtain ⟨hst2, hdrop2⟩ := hst.copy hdrop hn.symm
        have hblen := hst.len
        have hK2 := setRow_heap _ (G + 1) _ (bys (blk.take f ++ s.data.toList.take n ++ blk.drop (f + n))).toArray _ _ hK
        have hA2 := arr_row (cs := (bys (blk.take f ++ s.data.toList.take n ++ blk.drop (f + n))).toArray) hA (show G ≠ G + 1 by omega)
        have hB2 := below_setRow hB (show w.heap.size ≤ G + 1 by omega) (bys (blk.take f ++ s.data.toList.take n ++ blk.drop (f + n))).toArray
        have S0 := Same.refl a 0 1000
        refine wp_seq ?_
        refine wp_region_lit ?_
        refine list_val rfl (ex_move rfl h5.eval _) ?_
        show wpList _ _ _ _ (a.put (some 30) (.int .i64 (f : Int))) _
        have f14_3 := h3.ne (n := 30) (by decide) (.int .i64 (f : Int))
        have f14_4 := h4.ne (n := 30) (by decide) (.int .i64 (f : Int))
        have f14_5 := h5.ne (n := 30) (by decide) (.int .i64 (f : Int))
        have f14_6 := h6.ne (n := 30) (by decide) (.int .i64 (f : Int))
        have f14_8 := h8.ne (n := 30) (by decide) (.int .i64 (f : Int))
        have f14_15 := h15.ne (n := 30) (by decide) (.int .i64 (f : Int))
        have f14_16 := h16.ne (n := 30) (by decide) (.int .i64 (f : Int))
        have f14_17 := h17.ne (n := 30) (by decide) (.int .i64 (f : Int))
        have f14_30 := At.put (a := a) (n := 30) (by rw [S0.1, hs52]; decide) (.int .i64 (f : Int))
        have S14 := S0.put (n := 30) (by decide) (by decide) (.int .i64 (f : Int))
        generalize a.put (some 30) (.int .i64 (f : Int)) = a14 at S14 f14_3 f14_4 f14_5 f14_6 f14_8 f14_15 f14_16 f14_17 f14_30 ⊢
        refine list_val rfl (ex_slArr rfl f14_4.eval f14_30 hf _) ?_
        show wpList _ _ _ _ (a14.put (some 31) (.slice (some ⟨G + 1, f, none⟩) (64 - f) (64 - f))) _
        have f15_3 := f14_3.ne (n := 31) (by decide) (.slice (some ⟨G + 1, f, none⟩) (64 - f) (64 - f))
        have f15_4 := f14_4.ne (n := 31) (by decide) (.slice (some ⟨G + 1, f, none⟩) (64 - f) (64 - f))
        have f15_5 := f14_5.ne (n := 31) (by decide) (.slice (some ⟨G + 1, f, none⟩) (64 - f) (64 - f))
        have f15_6 := f14_6.ne (n := 31) (by decide) (.slice (some ⟨G + 1, f, none⟩) (64 - f) (64 - f))
        have f15_8 := f14_8.ne (n := 31) (by decide) (.slice (some ⟨G + 1, f, none⟩) (64 - f) (64 - f))
        have f15_15 := f14_15.ne (n := 31) (by decide) (.slice (some ⟨G + 1, f, none⟩) (64 - f) (64 - f))
        have f15_16 := f14_16.ne (n := 31) (by decide) (.slice (some ⟨G + 1, f, none⟩) (64 - f) (64 - f))
        have f15_17 := f14_17.ne (n := 31) (by decide) (.slice (some ⟨G + 1, f, none⟩) (64 - f) (64 - f))
        have f15_31 := At.put (a := a14) (n := 31) (by rw [S14.1, hs52]; decide) (.slice (some ⟨G + 1, f, none⟩) (64 - f) (64 - f))
        have S15 := S14.put (n := 31) (by decide) (by decide) (.slice (some ⟨G + 1, f, none⟩) (64 - f) (64 - f))
        generalize a14.put (some 31) (.slice (some ⟨G + 1, f, none⟩) (64 - f) (64 - f)) = a15 at S15 f15_3 f15_4 f15_5 f15_6 f15_8 f15_15 f15_16 f15_17 f15_31 ⊢
        refine list_val rfl (ex_move rfl f15_8.eval _) ?_
        show wpList _ _ _ _ (a15.put (some 32) (.string s)) _
        have f16_3 := f15_3.ne (n := 32) (by decide) (.string s)
        have f16_4 := f15_4.ne (n := 32) (by decide) (.string s)
        have f16_5 := f15_5.ne (n := 32) (by decide) (.string s)
        have f16_6 := f15_6.ne (n := 32) (by decide) (.string s)
        have f16_8 := f15_8.ne (n := 32) (by decide) (.string s)
        have f16_15 := f15_15.ne (n := 32) (by decide) (.string s)
        have f16_16 := f15_16.ne (n := 32) (by decide) (.string s)
        have f16_17 := f15_17.ne (n := 32) (by decide) (.string s)
        have f16_31 := f15_31.ne (n := 32) (by decide) (.string s)
        have f16_32 := At.put (a := a15) (n := 32) (by rw [S15.1, hs52]; decide) (.string s)
        have S16 := S15.put (n := 32) (by decide) (by decide) (.string s)
        generalize a15.put (some 32) (.string s) = a16 at S16 f16_3 f16_4 f16_5 f16_6 f16_8 f16_15 f16_16 f16_17 f16_31 f16_32 ⊢
        refine list_any rfl (ex_copy rfl f16_31.eval f16_32.eval hK hnn (by omega)) ?_
        show wpList _ _ _ _ (a16.put (some 33) (.int .i64 (n : Int))) _
        have f17_3 := f16_3.ne (n := 33) (by decide) (.int .i64 (n : Int))
        have f17_4 := f16_4.ne (n := 33) (by decide) (.int .i64 (n : Int))
        have f17_5 := f16_5.ne (n := 33) (by decide) (.int .i64 (n : Int))
        have f17_6 := f16_6.ne (n := 33) (by decide) (.int .i64 (n : Int))
        have f17_8 := f16_8.ne (n := 33) (by decide) (.int .i64 (n : Int))
        have f17_15 := f16_15.ne (n := 33) (by decide) (.int .i64 (n : Int))
        have f17_16 := f16_16.ne (n := 33) (by decide) (.int .i64 (n : Int))
        have f17_17 := f16_17.ne (n := 33) (by decide) (.int .i64 (n : Int))
        have f17_33 := At.put (a := a16) (n := 33) (by rw [S16.1, hs52]; decide) (.int .i64 (n : Int))
        have S17 := S16.put (n := 33) (by decide) (by decide) (.int .i64 (n : Int))
        generalize a16.put (some 33) (.int .i64 (n : Int)) = a17 at S17 f17_3 f17_4 f17_5 f17_6 f17_8 f17_15 f17_16 f17_17 f17_33 ⊢
        generalize wr.setRow (G + 1) (bys (blk.take f ++ s.data.toList.take n ++ blk.drop (f + n))).toArray = w2 at hK2 hA2 hB2 ⊢
        refine list_val rfl (ex_assign rfl f17_33.eval _) ?_
        show wpList _ _ _ _ (a17.put (some 9) (.int .i64 (n : Int))) _
        have f18_3 := f17_3.ne (n := 9) (by decide) (.int .i64 (n : Int))
        have f18_4 := f17_4.ne (n := 9) (by decide) (.int .i64 (n : Int))
        have f18_5 := f17_5.ne (n := 9) (by decide) (.int .i64 (n : Int))
        have f18_6 := f17_6.ne (n := 9) (by decide) (.int .i64 (n : Int))
        have f18_8 := f17_8.ne (n := 9) (by decide) (.int .i64 (n : Int))
        have f18_15 := f17_15.ne (n := 9) (by decide) (.int .i64 (n : Int))
        have f18_16 := f17_16.ne (n := 9) (by decide) (.int .i64 (n : Int))
        have f18_17 := f17_17.ne (n := 9) (by decide) (.int .i64 (n : Int))
        have f18_9 := At.put (a := a17) (n := 9) (by rw [S17.1, hs52]; decide) (.int .i64 (n : Int))
        have S18 := S17.put (n := 9) (by decide) (by decide) (.int .i64 (n : Int))
        generalize a17.put (some 9) (.int .i64 (n : Int)) = a18 at S18 f18_3 f18_4 f18_5 f18_6 f18_8 f18_15 f18_16 f18_17 f18_9 ⊢
        refine wpList_nil ?_
        show Code.wp _ _ _ a18 w2
        refine wp_seq ?_
        refine wp_region_lit ?_
        refine list_val rfl (ex_move rfl f18_8.eval _) ?_
        show wpList _ _ _ _ (a18.put (some 34) (.string s)) _
        have f19_3 := f18_3.ne (n := 34) (by decide) (.string s)
        have f19_4 := f18_4.ne (n := 34) (by decide) (.string s)
        have f19_5 := f18_5.ne (n := 34) (by decide) (.string s)
        have f19_6 := f18_6.ne (n := 34) (by decide) (.string s)
        have f19_8 := f18_8.ne (n := 34) (by decide) (.string s)
        have f19_15 := f18_15.ne (n := 34) (by decide) (.string s)
        have f19_16 := f18_16.ne (n := 34) (by decide) (.string s)
        have f19_17 := f18_17.ne (n := 34) (by decide) (.string s)
        have f19_9 := f18_9.ne (n := 34) (by decide) (.string s)
        have f19_34 := At.put (a := a18) (n := 34) (by rw [S18.1, hs52]; decide) (.string s)
        have S19 := S18.put (n := 34) (by decide) (by decide) (.string s)
        generalize a18.put (some 34) (.string s) = a19 at S19 f19_3 f19_4 f19_5 f19_6 f19_8 f19_15 f19_16 f19_17 f19_9 f19_34 ⊢
        refine list_val rfl (ex_move rfl f19_9.eval _) ?_
        show wpList _ _ _ _ (a19.put (some 35) (.int .i64 (n : Int))) _
        have f20_3 := f19_3.ne (n := 35) (by decide) (.int .i64 (n : Int))
        have f20_4 := f19_4.ne (n := 35) (by decide) (.int .i64 (n : Int))
        have f20_5 := f19_5.ne (n := 35) (by decide) (.int .i64 (n : Int))
        have f20_6 := f19_6.ne (n := 35) (by decide) (.int .i64 (n : Int))
        have f20_8 := f19_8.ne (n := 35) (by decide) (.int .i64 (n : Int))
        have f20_15 := f19_15.ne (n := 35) (by decide) (.int .i64 (n : Int))
        have f20_16 := f19_16.ne (n := 35) (by decide) (.int .i64 (n : Int))
        have f20_17 := f19_17.ne (n := 35) (by decide) (.int .i64 (n : Int))
        have f20_9 := f19_9.ne (n := 35) (by decide) (.int .i64 (n : Int))
        have f20_34 := f19_34.ne (n := 35) (by decide) (.int .i64 (n : Int))
        have f20_35 := At.put (a := a19) (n := 35) (by rw [S19.1, hs52]; decide) (.int .i64 (n : Int))
        have S20 := S19.put (n := 35) (by decide) (by decide) (.int .i64 (n : Int))
        generalize a19.put (some 35) (.int .i64 (n : Int)) = a20 at S20 f20_3 f20_4 f20_5 f20_6 f20_8 f20_15 f20_16 f20_17 f20_9 f20_34 f20_35 ⊢
        refine list_val rfl (ex_slStr rfl f20_34 f20_35 hns _) ?_
        show wpList _ _ _ _ (a20.put (some 36) (.string (s.extract n s.size))) _
        have f21_3 := f20_3.ne (n := 36) (by decide) (.string (s.extract n s.size))
        have f21_4 := f20_4.ne (n := 36) (by decide) (.string (s.extract n s.size))
        have f21_5 := f20_5.ne (n := 36) (by decide) (.string (s.extract n s.size))
        have f21_6 := f20_6.ne (n := 36) (by decide) (.string (s.extract n s.size))
        have f21_8 := f20_8.ne (n := 36) (by decide) (.string (s.extract n s.size))
        have f21_15 := f20_15.ne (n := 36) (by decide) (.string (s.extract n s.size))
        have f21_16 := f20_16.ne (n := 36) (by decide) (.string (s.extract n s.size))
        have f21_17 := f20_17.ne (n := 36) (by decide) (.string (s.extract n s.size))
        have f21_9 := f20_9.ne (n := 36) (by decide) (.string (s.extract n s.size))
        have f21_36 := At.put (a := a20) (n := 36) (by rw [S20.1, hs52]; decide) (.string (s.extract n s.size))
        have S21 := S20.put (n := 36) (by decide) (by decide) (.string (s.extract n s.size))
        generalize a20.put (some 36) (.string (s.extract n s.size)) = a21 at S21 f21_3 f21_4 f21_5 f21_6 f21_8 f21_15 f21_16 f21_17 f21_9 f21_36 ⊢
        refine list_val rfl (ex_assign rfl f21_36.eval _) ?_
        show wpList _ _ _ _ (a21.put (some 8) (.string (s.extract n s.size))) _
        have f22_3 := f21_3.ne (n := 8) (by decide) (.string (s.extract n s.size))
        have f22_4 := f21_4.ne (n := 8) (by decide) (.string (s.extract n s.size))
        have f22_5 := f21_5.ne (n := 8) (by decide) (.string (s.extract n s.size))
        have f22_6 := f21_6.ne (n := 8) (by decide) (.string (s.extract n s.size))
        have f22_15 := f21_15.ne (n := 8) (by decide) (.string (s.extract n s.size))
        have f22_16 := f21_16.ne (n := 8) (by decide) (.string (s.extract n s.size))
        have f22_17 := f21_17.ne (n := 8) (by decide) (.string (s.extract n s.size))
        have f22_9 := f21_9.ne (n := 8) (by decide) (.string (s.extract n s.size))
        have f22_8 := At.put (a := a21) (n := 8) (by rw [S21.1, hs52]; decide) (.string (s.extract n s.size))
        have S22 := S21.put (n := 8) (by decide) (by decide) (.string (s.extract n s.size))
        generalize a21.put (some 8) (.string (s.extract n s.size)) = a22 at S22 f22_3 f22_4 f22_5 f22_6 f22_15 f22_16 f22_17 f22_9 f22_8 ⊢
        refine wpList_nil ?_
        show Code.wp _ _ _ a22 w2
        refine wp_seq ?_
        refine wp_region_lit ?_
        refine list_val rfl (ex_move rfl f22_5.eval _) ?_
        show wpList _ _ _ _ (a22.put (some 37) (.int .i64 (f : Int))) _
        have f23_3 := f22_3.ne (n := 37) (by decide) (.int .i64 (f : Int))
        have f23_4 := f22_4.ne (n := 37) (by decide) (.int .i64 (f : Int))
        have f23_5 := f22_5.ne (n := 37) (by decide) (.int .i64 (f : Int))
        have f23_6 := f22_6.ne (n := 37) (by decide) (.int .i64 (f : Int))
        have f23_15 := f22_15.ne (n := 37) (by decide) (.int .i64 (f : Int))
        have f23_16 := f22_16.ne (n := 37) (by decide) (.int .i64 (f : Int))
        have f23_17 := f22_17.ne (n := 37) (by decide) (.int .i64 (f : Int))
        have f23_9 := f22_9.ne (n := 37) (by decide) (.int .i64 (f : Int))
        have f23_8 := f22_8.ne (n := 37) (by decide) (.int .i64 (f : Int))
        have f23_37 := At.put (a := a22) (n := 37) (by rw [S22.1, hs52]; decide) (.int .i64 (f : Int))
        have S23 := S22.put (n := 37) (by decide) (by decide) (.int .i64 (f : Int))
        generalize a22.put (some 37) (.int .i64 (f : Int)) = a23 at S23 f23_3 f23_4 f23_5 f23_6 f23_15 f23_16 f23_17 f23_9 f23_8 f23_37 ⊢
        refine list_val rfl (ex_move rfl f23_9.eval _) ?_
        show wpList _ _ _ _ (a23.put (some 38) (.int .i64 (n : Int))) _
        have f24_3 := f23_3.ne (n := 38) (by decide) (.int .i64 (n : Int))
        have f24_4 := f23_4.ne (n := 38) (by decide) (.int .i64 (n : Int))
        have f24_5 := f23_5.ne (n := 38) (by decide) (.int .i64 (n : Int))
        have f24_6 := f23_6.ne (n := 38) (by decide) (.int .i64 (n : Int))
        have f24_15 := f23_15.ne (n := 38) (by decide) (.int .i64 (n : Int))
        have f24_16 := f23_16.ne (n := 38) (by decide) (.int .i64 (n : Int))
        have f24_17 := f23_17.ne (n := 38) (by decide) (.int .i64 (n : Int))
        have f24_9 := f23_9.ne (n := 38) (by decide) (.int .i64 (n : Int))
        have f24_8 := f23_8.ne (n := 38) (by decide) (.int .i64 (n : Int))
        have f24_37 := f23_37.ne (n := 38) (by decide) (.int .i64 (n : Int))
        have f24_38 := At.put (a := a23) (n := 38) (by rw [S23.1, hs52]; decide) (.int .i64 (n : Int))
        have S24 := S23.put (n := 38) (by decide) (by decide) (.int .i64 (n : Int))
        generalize a23.put (some 38) (.int .i64 (n : Int)) = a24 at S24 f24_3 f24_4 f24_5 f24_6 f24_15 f24_16 f24_17 f24_9 f24_8 f24_37 f24_38 ⊢
        refine list_val rfl (ex_add2 rfl f24_37 f24_38 (by omega) (by omega) _) ?_
        show wpList _ _ _ _ (a24.put (some 39) (.int .i64 ((f + n : Nat) : Int))) _
        have f25_3 := f24_3.ne (n := 39) (by decide) (.int .i64 ((f + n : Nat) : Int))
        have f25_4 := f24_4.ne (n := 39) (by decide) (.int .i64 ((f + n : Nat) : Int))
        have f25_5 := f24_5.ne (n := 39) (by decide) (.int .i64 ((f + n : Nat) : Int))
        have f25_6 := f24_6.ne (n := 39) (by decide) (.int .i64 ((f + n : Nat) : Int))
        have f25_15 := f24_15.ne (n := 39) (by decide) (.int .i64 ((f + n : Nat) : Int))
        have f25_16 := f24_16.ne (n := 39) (by decide) (.int .i64 ((f + n : Nat) : Int))
        have f25_17 := f24_17.ne (n := 39) (by decide) (.int .i64 ((f + n : Nat) : Int))
        have f25_9 := f24_9.ne (n := 39) (by decide) (.int .i64 ((f + n : Nat) : Int))
        have f25_8 := f24_8.ne (n := 39) (by decide) (.int .i64 ((f + n : Nat) : Int))
        have f25_39 := At.put (a := a24) (n := 39) (by rw [S24.1, hs52]; decide) (.int .i64 ((f + n : Nat) : Int))
        have S25 := S24.put (n := 39) (by decide) (by decide) (.int .i64 ((f + n : Nat) : Int))
        generalize a24.put (some 39) (.int .i64 ((f + n : Nat) : Int)) = a25 at S25 f25_3 f25_4 f25_5 f25_6 f25_15 f25_16 f25_17 f25_9 f25_8 f25_39 ⊢
        refine list_val rfl (ex_assign rfl f25_39.eval _) ?_
        show wpList _ _ _ _ (a25.put (some 5) (.int .i64 ((f + n : Nat) : Int))) _
        have f26_3 := f25_3.ne (n := 5) (by decide) (.int .i64 ((f + n : Nat) : Int))
        have f26_4 := f25_4.ne (n := 5) (by decide) (.int .i64 ((f + n : Nat) : Int))
        have f26_6 := f25_6.ne (n := 5) (by decide) (.int .i64 ((f + n : Nat) : Int))
        have f26_15 := f25_15.ne (n := 5) (by decide) (.int .i64 ((f + n : Nat) : Int))
        have f26_16 := f25_16.ne (n := 5) (by decide) (.int .i64 ((f + n : Nat) : Int))
        have f26_17 := f25_17.ne (n := 5) (by decide) (.int .i64 ((f + n : Nat) : Int))
        have f26_9 := f25_9.ne (n := 5) (by decide) (.int .i64 ((f + n : Nat) : Int))
        have f26_8 := f25_8.ne (n := 5) (by decide) (.int .i64 ((f + n : Nat) : Int))
        have f26_5 := At.put (a := a25) (n := 5) (by rw [S25.1, hs52]; decide) (.int .i64 ((f + n : Nat) : Int))
        have S26 := S25.put (n := 5) (by decide) (by decide) (.int .i64 ((f + n : Nat) : Int))
        generalize a25.put (some 5) (.int .i64 ((f + n : Nat) : Int)) = a26 at S26 f26_3 f26_4 f26_6 f26_15 f26_16 f26_17 f26_9 f26_8 f26_5 ⊢
        refine wpList_nil ?_
        show Code.wp _ _ _ a26 w2
        refine wp_region_lit ?_
        refine list_val rfl (ex_move rfl f26_6.eval _) ?_
        show wpList _ _ _ _ (a26.put (some 40) (.int .u64 (c : Int))) _
        have f27_3 := f26_3.ne (n := 40) (by decide) (.int .u64 (c : Int))
        have f27_4 := f26_4.ne (n := 40) (by decide) (.int .u64 (c : Int))
        have f27_6 := f26_6.ne (n := 40) (by decide) (.int .u64 (c : Int))
        have f27_15 := f26_15.ne (n := 40) (by decide) (.int .u64 (c : Int))
        have f27_16 := f26_16.ne (n := 40) (by decide) (.int .u64 (c : Int))
        have f27_17 := f26_17.ne (n := 40) (by decide) (.int .u64 (c : Int))
        have f27_9 := f26_9.ne (n := 40) (by decide) (.int .u64 (c : Int))
        have f27_8 := f26_8.ne (n := 40) (by decide) (.int .u64 (c : Int))
        have f27_5 := f26_5.ne (n := 40) (by decide) (.int .u64 (c : Int))
        have f27_40 := At.put (a := a26) (n := 40) (by rw [S26.1, hs52]; decide) (.int .u64 (c : Int))
        have S27 := S26.put (n := 40) (by decide) (by decide) (.int .u64 (c : Int))
        generalize a26.put (some 40) (.int .u64 (c : Int)) = a27 at S27 f27_3 f27_4 f27_6 f27_15 f27_16 f27_17 f27_9 f27_8 f27_5 f27_40 ⊢
        refine list_val rfl (ex_move rfl f27_9.eval _) ?_
        show wpList _ _ _ _ (a27.put (some 41) (.int .i64 (n : Int))) _
        have f28_3 := f27_3.ne (n := 41) (by decide) (.int .i64 (n : Int))
        have f28_4 := f27_4.ne (n := 41) (by decide) (.int .i64 (n : Int))
        have f28_6 := f27_6.ne (n := 41) (by decide) (.int .i64 (n : Int))
        have f28_15 := f27_15.ne (n := 41) (by decide) (.int .i64 (n : Int))
        have f28_16 := f27_16.ne (n := 41) (by decide) (.int .i64 (n : Int))
        have f28_17 := f27_17.ne (n := 41) (by decide) (.int .i64 (n : Int))
        have f28_9 := f27_9.ne (n := 41) (by decide) (.int .i64 (n : Int))
        have f28_8 := f27_8.ne (n := 41) (by decide) (.int .i64 (n : Int))
        have f28_5 := f27_5.ne (n := 41) (by decide) (.int .i64 (n : Int))
        have f28_40 := f27_40.ne (n := 41) (by decide) (.int .i64 (n : Int))
        have f28_41 := At.put (a := a27) (n := 41) (by rw [S27.1, hs52]; decide) (.int .i64 (n : Int))
        have S28 := S27.put (n := 41) (by decide) (by decide) (.int .i64 (n : Int))
        generalize a27.put (some 41) (.int .i64 (n : Int)) = a28 at S28 f28_3 f28_4 f28_6 f28_15 f28_16 f28_17 f28_9 f28_8 f28_5 f28_40 f28_41 ⊢
        refine list_val rfl (ex_cvt rfl f28_41 (by omega) _) ?_
        show wpList _ _ _ _ (a28.put (some 42) (.int .u64 (n : Int))) _
        have f29_3 := f28_3.ne (n := 42) (by decide) (.int .u64 (n : Int))
        have f29_4 := f28_4.ne (n := 42) (by decide) (.int .u64 (n : Int))
        have f29_6 := f28_6.ne (n := 42) (by decide) (.int .u64 (n : Int))
        have f29_15 := f28_15.ne (n := 42) (by decide) (.int .u64 (n : Int))
        have f29_16 := f28_16.ne (n := 42) (by decide) (.int .u64 (n : Int))
        have f29_17 := f28_17.ne (n := 42) (by decide) (.int .u64 (n : Int))
        have f29_9 := f28_9.ne (n := 42) (by decide) (.int .u64 (n : Int))
        have f29_8 := f28_8.ne (n := 42) (by decide) (.int .u64 (n : Int))
        have f29_5 := f28_5.ne (n := 42) (by decide) (.int .u64 (n : Int))
        have f29_40 := f28_40.ne (n := 42) (by decide) (.int .u64 (n : Int))
        have f29_42 := At.put (a := a28) (n := 42) (by rw [S28.1, hs52]; decide) (.int .u64 (n : Int))
        have S29 := S28.put (n := 42) (by decide) (by decide) (.int .u64 (n : Int))
        generalize a28.put (some 42) (.int .u64 (n : Int)) = a29 at S29 f29_3 f29_4 f29_6 f29_15 f29_16 f29_17 f29_9 f29_8 f29_5 f29_40 f29_42 ⊢
        refine list_val rfl (ex_addu rfl f29_40 f29_42 (by omega) (by omega) _) ?_
        show wpList _ _ _ _ (a29.put (some 43) (.int .u64 ((c + n : Nat) : Int))) _
        have f30_3 := f29_3.ne (n := 43) (by decide) (.int .u64 ((c + n : Nat) : Int))
        have f30_4 := f29_4.ne (n := 43) (by decide) (.int .u64 ((c + n : Nat) : Int))
        have f30_6 := f29_6.ne (n := 43) (by decide) (.int .u64 ((c + n : Nat) : Int))
        have f30_15 := f29_15.ne (n := 43) (by decide) (.int .u64 ((c + n : Nat) : Int))
        have f30_16 := f29_16.ne (n := 43) (by decide) (.int .u64 ((c + n : Nat) : Int))
        have f30_17 := f29_17.ne (n := 43) (by decide) (.int .u64 ((c + n : Nat) : Int))
        have f30_9 := f29_9.ne (n := 43) (by decide) (.int .u64 ((c + n : Nat) : Int))
        have f30_8 := f29_8.ne (n := 43) (by decide) (.int .u64 ((c + n : Nat) : Int))
        have f30_5 := f29_5.ne (n := 43) (by decide) (.int .u64 ((c + n : Nat) : Int))
        have f30_43 := At.put (a := a29) (n := 43) (by rw [S29.1, hs52]; decide) (.int .u64 ((c + n : Nat) : Int))
        have S30 := S29.put (n := 43) (by decide) (by decide) (.int .u64 ((c + n : Nat) : Int))
        generalize a29.put (some 43) (.int .u64 ((c + n : Nat) : Int)) = a30 at S30 f30_3 f30_4 f30_6 f30_15 f30_16 f30_17 f30_9 f30_8 f30_5 f30_43 ⊢
        refine list_val rfl (ex_assign rfl f30_43.eval _) ?_
        show wpList _ _ _ _ (a30.put (some 6) (.int .u64 ((c + n : Nat) : Int))) _
        have f31_3 := f30_3.ne (n := 6) (by decide) (.int .u64 ((c + n : Nat) : Int))
        have f31_4 := f30_4.ne (n := 6) (by decide) (.int .u64 ((c + n : Nat) : Int))
        have f31_15 := f30_15.ne (n := 6) (by decide) (.int .u64 ((c + n : Nat) : Int))
        have f31_16 := f30_16.ne (n := 6) (by decide) (.int .u64 ((c + n : Nat) : Int))
        have f31_17 := f30_17.ne (n := 6) (by decide) (.int .u64 ((c + n : Nat) : Int))
        have f31_9 := f30_9.ne (n := 6) (by decide) (.int .u64 ((c + n : Nat) : Int))
        have f31_8 := f30_8.ne (n := 6) (by decide) (.int .u64 ((c + n : Nat) : Int))
        have f31_5 := f30_5.ne (n := 6) (by decide) (.int .u64 ((c + n : Nat) : Int))
        have f31_6 := At.put (a := a30) (n := 6) (by rw [S30.1, hs52]; decide) (.int .u64 ((c + n : Nat) : Int))
        have S31 := S30.put (n := 6) (by decide) (by decide) (.int .u64 ((c + n : Nat) : Int))
        generalize a30.put (some 6) (.int .u64 ((c + n : Nat) : Int)) = a31 at S31 f31_3 f31_4 f31_15 f31_16 f31_17 f31_9 f31_8 f31_5 f31_6 ⊢
        refine wpList_nil ?_
        show INT w l (some ⟨b, of, none⟩) cap G k a31 w2 ∧ MUT a31 w2 < s.size
        refine ⟨⟨c + n, q, f + n, _, s.extract n s.size, by rw [S31.1, hs52], by rw [S31.2.1, hdf], f31_3, f31_4, f31_5, f31_6, f31_8, f31_15, f31_16, f31_17, by rw [row_drop]; exact hdrop2, .inr (by omega), hst2, hA2, hK2, hB2⟩, ?_⟩
        unfold MUT
        rw [f31_8.eval]
        simp only [strLen, ByteArray.size_extract]
        omega
    · have hs0 : s.size = 0 := by omega
      rw [decide_eq_false hpos] at f6_23
      refine wp_cond_false f6_23.eval ?_
      refine wp_exit ?_
      show Code.wp _ _ _ a6 wr
      have hsn : s.data.toList = [] := List.eq_nil_of_length_eq_zero hs0
      rw [hsn, List.nil_append] at hdrop
      refine wp_region_lit ?_
      refine list_val rfl (ex_next rfl f6_17 (by omega) _) ?_
      show wpList _ _ _ _ (a6.put (some 44) (.int .i64 ((k + 1 : Nat) : Int))) _
      have f201_3 := f6_3.ne (n := 44) (by decide) (.int .i64 ((k + 1 : Nat) : Int))
      have f201_4 := f6_4.ne (n := 44) (by decide) (.int .i64 ((k + 1 : Nat) : Int))
      have f201_5 := f6_5.ne (n := 44) (by decide) (.int .i64 ((k + 1 : Nat) : Int))
      have f201_6 := f6_6.ne (n := 44) (by decide) (.int .i64 ((k + 1 : Nat) : Int))
      have f201_8 := f6_8.ne (n := 44) (by decide) (.int .i64 ((k + 1 : Nat) : Int))
      have f201_15 := f6_15.ne (n := 44) (by decide) (.int .i64 ((k + 1 : Nat) : Int))
      have f201_16 := f6_16.ne (n := 44) (by decide) (.int .i64 ((k + 1 : Nat) : Int))
      have f201_17 := f6_17.ne (n := 44) (by decide) (.int .i64 ((k + 1 : Nat) : Int))
      have f201_44 := At.put (a := a6) (n := 44) (by rw [S6.1, hs52]; decide) (.int .i64 ((k + 1 : Nat) : Int))
      have S201 := S6.put (n := 44) (by decide) (by decide) (.int .i64 ((k + 1 : Nat) : Int))
      generalize a6.put (some 44) (.int .i64 ((k + 1 : Nat) : Int)) = a201 at S201 f201_3 f201_4 f201_5 f201_6 f201_8 f201_15 f201_16 f201_17 f201_44 ⊢
      refine list_val rfl (ex_move rfl f201_44.eval _) ?_
      show wpList _ _ _ _ (a201.put (some 17) (.int .i64 ((k + 1 : Nat) : Int))) _
      have f202_3 := f201_3.ne (n := 17) (by decide) (.int .i64 ((k + 1 : Nat) : Int))
      have f202_4 := f201_4.ne (n := 17) (by decide) (.int .i64 ((k + 1 : Nat) : Int))
      have f202_5 := f201_5.ne (n := 17) (by decide) (.int .i64 ((k + 1 : Nat) : Int))
      have f202_6 := f201_6.ne (n := 17) (by decide) (.int .i64 ((k + 1 : Nat) : Int))
      have f202_8 := f201_8.ne (n := 17) (by decide) (.int .i64 ((k + 1 : Nat) : Int))
      have f202_15 := f201_15.ne (n := 17) (by decide) (.int .i64 ((k + 1 : Nat) : Int))
      have f202_16 := f201_16.ne (n := 17) (by decide) (.int .i64 ((k + 1 : Nat) : Int))
      have f202_17 := At.put (a := a201) (n := 17) (by rw [S201.1, hs52]; decide) (.int .i64 ((k + 1 : Nat) : Int))
      have S202 := S201.put (n := 17) (by decide) (by decide) (.int .i64 ((k + 1 : Nat) : Int))
      generalize a201.put (some 17) (.int .i64 ((k + 1 : Nat) : Int)) = a202 at S202 f202_3 f202_4 f202_5 f202_6 f202_8 f202_15 f202_16 f202_17 ⊢
      refine wpList_nil ?_
      show INS w l (some ⟨b, of, none⟩) cap G a202 wr ∧ MUS l.length a202 wr < l.length - k
      refine ⟨⟨k + 1, c, q, f, blk, by omega, by rw [S202.1, hs52], by rw [S202.2.1, hdf], f202_3, f202_4, f202_5, f202_6, f202_15, f202_16, f202_17, hdrop, hq0, hst, hA, hK, hB⟩, ?_⟩
      unfold MUS
      rw [f202_17.eval]
      simp only [intOf]
      omega
  · obtain rfl : k = l.length := by omega
    rw [decide_eq_false hlt] at S0 hcond ⊢
    have y3 := h3.ne (n := 18) (by decide) (.bool false)
    have y4 := h4.ne (n := 18) (by decide) (.bool false)
    have y5 := h5.ne (n := 18) (by decide) (.bool false)
    have y6 := h6.ne (n := 18) (by decide) (.bool false)
    generalize a.put (some 18) (.bool false) = a0 at S0 hcond y3 y4 y5 y6 ⊢
    refine wp_seq ?_
    refine wp_cond_false hcond.eval ?_
    refine wp_exit ?_
    show Kf a0 wr
    refine hKf _ _ ?_
    have hcl : c = l.flatten.length := by
      rw [List.drop_length, List.flatten_nil] at hdrop
      have := congrArg List.length hdrop
      simp only [List.length_drop, List.length_nil] at this
      have := hst.all
      omega
    have hfin := hst.fin hcl
    have hsum := hst.sum
    have hca := hst.all
    have hs52 := hsz
    rw [htl] at hca
    have hdig := dig_end l.flatten q f (by rw [← hcl]; exact hsum) hst.le hq0
    rw [← hcl] at hdig
    have hpl : (pad (l.flatten.drop (64 * q))).length = 64 := by
      rw [← hfin, List.length_append, List.length_take, List.length_replicate, hst.len]
      have := hst.le
      omega
    refine wp_seq_then (JD w l G q c) ?_ ?_
    · refine wp_region_lit ?_
      refine list_val rfl (ex_move rfl y5.eval _) ?_
      show wpList _ _ _ _ (a0.put (some 45) (.int .i64 (f : Int))) _
      have f1_3 := y3.ne (n := 45) (by decide) (.int .i64 (f : Int))
      have f1_4 := y4.ne (n := 45) (by decide) (.int .i64 (f : Int))
      have f1_6 := y6.ne (n := 45) (by decide) (.int .i64 (f : Int))
      have f1_45 := At.put (a := a0) (n := 45) (by rw [S0.1, hs52]; decide) (.int .i64 (f : Int))
      have S1 := S0.put (n := 45) (by decide) (by decide) (.int .i64 (f : Int))
      generalize a0.put (some 45) (.int .i64 (f : Int)) = a1 at S1 f1_3 f1_4 f1_6 f1_45 ⊢
      by_cases hf64 : f = 64
      · subst hf64
        refine list_val rfl (ex_slArrEnd rfl f1_4.eval f1_45 _) ?_
        show wpList _ _ _ _ (a1.put (some 46) (.slice (some ⟨G + 1, 0, none⟩) 0 0)) _
        have f2_3 := f1_3.ne (n := 46) (by decide) (.slice (some ⟨G + 1, 0, none⟩) 0 0)
        have f2_4 := f1_4.ne (n := 46) (by decide) (.slice (some ⟨G + 1, 0, none⟩) 0 0)
        have f2_6 := f1_6.ne (n := 46) (by decide) (.slice (some ⟨G + 1, 0, none⟩) 0 0)
        have f2_46 := At.put (a := a1) (n := 46) (by rw [S1.1, hs52]; decide) (.slice (some ⟨G + 1, 0, none⟩) 0 0)
        have S2 := S1.put (n := 46) (by decide) (by decide) (.slice (some ⟨G + 1, 0, none⟩) 0 0)
        generalize a1.put (some 46) (.slice (some ⟨G + 1, 0, none⟩) 0 0) = a2 at S2 f2_3 f2_4 f2_6 f2_46 ⊢
        refine list_any (w' := wr) rfl (ex_clearNone rfl f2_46) ?_
        refine wpList_nil ?_
        show JD w l G q c a2 wr
        rw [List.take_of_length_le (by rw [hst.len]; omega), Nat.sub_self, List.replicate_zero, List.append_nil] at hfin
        rw [hfin] at hK
        exact ⟨by rw [S2.1, hs52], by rw [S2.2.1, hdf], f2_3, f2_4, f2_6, hA, hK, hB⟩
      · have hf : f < 64 := by have := hst.le; omega
        have hblen := hst.len
        refine list_val rfl (ex_slArr rfl f1_4.eval f1_45 hf _) ?_
        show wpList _ _ _ _ (a1.put (some 46) (.slice (some ⟨G + 1, f, none⟩) (64 - f) (64 - f))) _
        have f3_3 := f1_3.ne (n := 46) (by decide) (.slice (some ⟨G + 1, f, none⟩) (64 - f) (64 - f))
        have f3_4 := f1_4.ne (n := 46) (by decide) (.slice (some ⟨G + 1, f, none⟩) (64 - f) (64 - f))
        have f3_6 := f1_6.ne (n := 46) (by decide) (.slice (some ⟨G + 1, f, none⟩) (64 - f) (64 - f))
        have f3_46 := At.put (a := a1) (n := 46) (by rw [S1.1, hs52]; decide) (.slice (some ⟨G + 1, f, none⟩) (64 - f) (64 - f))
        have S3 := S1.put (n := 46) (by decide) (by decide) (.slice (some ⟨G + 1, f, none⟩) (64 - f) (64 - f))
        generalize a1.put (some 46) (.slice (some ⟨G + 1, f, none⟩) (64 - f) (64 - f)) = a3 at S3 f3_3 f3_4 f3_6 f3_46 ⊢
        refine list_any rfl (ex_clear rfl f3_46 hK (by omega) (by omega)) ?_
        rw [hfin]
        have hK2 := setRow_heap _ (G + 1) _ (bys (pad (l.flatten.drop (64 * q)))).toArray _ _ hK
        have hA2 := arr_row (cs := (bys (pad (l.flatten.drop (64 * q)))).toArray) hA (show G ≠ G + 1 by omega)
        have hB2 := below_setRow hB (show w.heap.size ≤ G + 1 by omega) (bys (pad (l.flatten.drop (64 * q)))).toArray
        refine wpList_nil ?_
        show JD w l G q c a3 _
        exact ⟨by rw [S3.1, hs52], by rw [S3.2.1, hdf], f3_3, f3_4, f3_6, hA2, hK2, hB2⟩
    · clear hst hA hK hB hq0 S0 hsz hdf h3 h4 h5 h6 hs52 y3 y4 y5 y6 hcond
      rintro a wr ⟨hs52, hdf, h3, h4, h6, hA, hK, hB⟩
      have S0 := Same.refl a 0 1000
      refine wp_seq ?_
      refine wp_region_lit ?_
      refine list_val rfl (ex_loadrow rfl h3.eval hA Tryd.underlying32 (hz8 _ (hq_len _ _))) ?_
      show wpList _ _ _ _ (a.put (some 47) (.agg (wvs (hq l.flatten q)).toArray)) _
      have f4_3 := h3.ne (n := 47) (by decide) (.agg (wvs (hq l.flatten q)).toArray)
      have f4_4 := h4.ne (n := 47) (by decide) (.agg (wvs (hq l.flatten q)).toArray)
      have f4_6 := h6.ne (n := 47) (by decide) (.agg (wvs (hq l.flatten q)).toArray)
      have f4_47 := At.put (a := a) (n := 47) (by rw [S0.1, hs52]; decide) (.agg (wvs (hq l.flatten q)).toArray)
      have S4 := S0.put (n := 47) (by decide) (by decide) (.agg (wvs (hq l.flatten q)).toArray)
      generalize a.put (some 47) (.agg (wvs (hq l.flatten q)).toArray) = a4 at S4 f4_3 f4_4 f4_6 f4_47 ⊢
      refine list_val rfl (ex_loadrow rfl f4_4.eval hK Tryd.underlying44 (bys_hi _ hpl)) ?_
      show wpList _ _ _ _ (a4.put (some 48) (.agg (bys (pad (l.flatten.drop (64 * q)))).toArray)) _
      have f5_3 := f4_3.ne (n := 48) (by decide) (.agg (bys (pad (l.flatten.drop (64 * q)))).toArray)
      have f5_4 := f4_4.ne (n := 48) (by decide) (.agg (bys (pad (l.flatten.drop (64 * q)))).toArray)
      have f5_6 := f4_6.ne (n := 48) (by decide) (.agg (bys (pad (l.flatten.drop (64 * q)))).toArray)
      have f5_47 := f4_47.ne (n := 48) (by decide) (.agg (bys (pad (l.flatten.drop (64 * q)))).toArray)
      have f5_48 := At.put (a := a4) (n := 48) (by rw [S4.1, hs52]; decide) (.agg (bys (pad (l.flatten.drop (64 * q)))).toArray)
      have S5 := S4.put (n := 48) (by decide) (by decide) (.agg (bys (pad (l.flatten.drop (64 * q)))).toArray)
      generalize a4.put (some 48) (.agg (bys (pad (l.flatten.drop (64 * q)))).toArray) = a5 at S5 f5_3 f5_4 f5_6 f5_47 f5_48 ⊢
      refine list_val rfl (ex_move rfl f5_6.eval _) ?_
      show wpList _ _ _ _ (a5.put (some 49) (.int .u64 (c : Int))) _
      have f6_3 := f5_3.ne (n := 49) (by decide) (.int .u64 (c : Int))
      have f6_4 := f5_4.ne (n := 49) (by decide) (.int .u64 (c : Int))
      have f6_6 := f5_6.ne (n := 49) (by decide) (.int .u64 (c : Int))
      have f6_47 := f5_47.ne (n := 49) (by decide) (.int .u64 (c : Int))
      have f6_48 := f5_48.ne (n := 49) (by decide) (.int .u64 (c : Int))
      have f6_49 := At.put (a := a5) (n := 49) (by rw [S5.1, hs52]; decide) (.int .u64 (c : Int))
      have S6 := S5.put (n := 49) (by decide) (by decide) (.int .u64 (c : Int))
      generalize a5.put (some 49) (.int .u64 (c : Int)) = a6 at S6 f6_3 f6_4 f6_6 f6_47 f6_48 f6_49 ⊢
      have hcc := ocompress_any (hq l.flatten q) (pad (l.flatten.drop (64 * q))) c true wr (hq_len _ _) hpl (by omega) (hL.below hB)
      obtain ⟨N, hN⟩ : ∃ x, cmpL (hq l.flatten q) (pad (l.flatten.drop (64 * q))) c true = x := ⟨_, rfl⟩
      have hNl : N.length = 8 := by rw [← hN, cmpL_len]
      rw [hN] at hcc hdig
      refine list_enter (v := av N) (R := fun w' => Below wr.heap.size wr w') rfl (ex_comp rfl f6_47 f6_48 f6_49 _) hcc (fun w1 hb1 => ?_)
      show wpList _ _ _ _ (a6.put (some 50) (av N)) _
      have f7_3 := f6_3.ne (n := 50) (by decide) (av N)
      have f7_4 := f6_4.ne (n := 50) (by decide) (av N)
      have f7_6 := f6_6.ne (n := 50) (by decide) (av N)
      have f7_50 := At.put (a := a6) (n := 50) (by rw [S6.1, hs52]; decide) (av N)
      have S7 := S6.put (n := 50) (by decide) (by decide) (av N)
      generalize a6.put (some 50) (av N) = a7 at S7 f7_3 f7_4 f7_6 f7_50 ⊢
      refine list_enter (v := .string ⟨(outL N).toArray⟩) (R := fun w' => Below w1.heap.size w1 w') rfl (ex_bytes rfl f7_50 _) (obytes_any N w1 hNl) (fun w2 hb2 => ?_)
      show wpList _ _ _ _ (a7.put (some 51) (.string ⟨(outL N).toArray⟩)) _
      have f8_3 := f7_3.ne (n := 51) (by decide) (.string ⟨(outL N).toArray⟩)
      have f8_4 := f7_4.ne (n := 51) (by decide) (.string ⟨(outL N).toArray⟩)
      have f8_6 := f7_6.ne (n := 51) (by decide) (.string ⟨(outL N).toArray⟩)
      have f8_51 := At.put (a := a7) (n := 51) (by rw [S7.1, hs52]; decide) (.string ⟨(outL N).toArray⟩)
      have S8 := S7.put (n := 51) (by decide) (by decide) (.string ⟨(outL N).toArray⟩)
      generalize a7.put (some 51) (.string ⟨(outL N).toArray⟩) = a8 at S8 f8_3 f8_4 f8_6 f8_51 ⊢
      refine list_val rfl (ex_assign rfl f8_51.eval _) ?_
      show wpList _ _ _ _ (a8.put (some 2) (.string ⟨(outL N).toArray⟩)) _
      have f9_3 := f8_3.ne (n := 2) (by decide) (.string ⟨(outL N).toArray⟩)
      have f9_4 := f8_4.ne (n := 2) (by decide) (.string ⟨(outL N).toArray⟩)
      have f9_6 := f8_6.ne (n := 2) (by decide) (.string ⟨(outL N).toArray⟩)
      have f9_2 := At.put (a := a8) (n := 2) (by rw [S8.1, hs52]; decide) (.string ⟨(outL N).toArray⟩)
      have S9 := S8.put (n := 2) (by decide) (by decide) (.string ⟨(outL N).toArray⟩)
      generalize a8.put (some 2) (.string ⟨(outL N).toArray⟩) = a9 at S9 f9_3 f9_4 f9_6 f9_2 ⊢
      refine wpList_nil ?_
      refine wp_ret ?_
      exact bodyPost_ret (results_at rfl f9_2 _ _) (S9.2.1.trans hdf) ⟨by rw [hdig], chain (chain hB hb1) hb2⟩
end Go.Proofs.YtkppepdniehoiaaDoor.B4
