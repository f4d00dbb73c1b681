/- The contract of the landed Stripes of layer 16. -/
import Derived.Test.YtcfoclmkhippoaaL16Own4
namespace Go.Proofs.Ytcfoclmkhippoaa.L16
set_option maxRecDepth 100000
open Go.RowKit Go.Shelf Mem
open Go.Proofs.Ytcfoclmkhippoaa.G5 Go.Proofs.Ytcfoclmkhippoaa.G7 Go.Proofs.Ytcfoclmkhippoaa.E15
set_option linter.unusedVariables false
set_option linter.unusedSimpArgs false
attribute [local go_sem] Oper.semAt_some

theorem lybox_own {β : Type} (B : Nat) (D S : Int) : Own (fun (_ : β) W => LyBox W B D S) := fun s X Y row hs hg hrow => by
  have hs : LyBox X B D S := hs
  show LyBox Y B D S
  refine (hg.block B hs.lt fun e => ?_).trans hs
  obtain ⟨o, ho, hc⟩ := hrow B e.symm
  rw [show X.heap[B]? = _ from hs] at ho
  cases ho
  cases hc
theorem sov_own : Own (fun (pre : List (Value × List (List R))) W => SoV W (pre.map Prod.fst) (pre.map Prod.snd)) := fun s X Y row hs hg hrow => SoV.kept hs hg fun r e => by
  obtain ⟨o, ho, hc⟩ := hrow r e
  exact ⟨o, ho, fun cs fz e => by rw [e] at hc; cases hc⟩
theorem ly_not_row {W : World} {B : Nat} {D S : Int} (h : LyBox W B D S) {base size k : Nat} {v : Value} {xs : List Value} (hr : W.ownsRow base 39 size v k xs) : some B ≠ v.ownBlock := by
  rcases hr.2 with ⟨rfl, _⟩ | ⟨g, cap, cur, rfl, _, hgb, _⟩
  · simp [Value.ownBlock]
  · intro e
    obtain rfl : B = g := by simpa [Value.ownBlock] using e
    have := (show W.heap[B]? = _ from h).symm.trans hgb
    simp at this
/-- What a round of the loop leaves: the iterator's boxes and all stripes lie as they lay. -/
theorem round_keeps {W w1 : World} {o : Obj} {b0 b1 b2 base k : Nat} {D S : Int} {c : ByteArray} {v v' : Value} {xs : List Value} {vs : List Value} {L : List (List (List R))}
    (hv : Boxed W b0 34 v) (hr : W.ownsRow base 39 1 v k xs) (z1 : Boxed W b1 9 (.string c)) (z2 : LyBox W b2 D S) (hs : SoV W vs L) (h01 : b0 ≠ b1) (h02 : b0 ≠ b2) (hg : (W.alloc o).grownBy w1 v.ownBlock) :
    Kp2 b1 b2 W (w1.setCell ⟨b0, 0, none⟩ v') ∧ SoV (w1.setCell ⟨b0, 0, none⟩ v') vs L := by
  have hrow : ∀ r, v.ownBlock = some r → ∃ o' : Obj, (W.alloc o).heap[r]? = some o' ∧ ∀ cs fz, o' ≠ .cells cs 9 fz := fun r e => by
    rcases (hr.alloc o).2 with ⟨rfl, _⟩ | ⟨g, cap, cur, rfl, _, hgb, _⟩
    · cases e
    · injection e with e
      subst e
      exact ⟨_, hgb, fun cs fz e => by injection e with _ e _; cases e⟩
  refine ⟨⟨?_, ?_⟩, ?_⟩
  · exact (Below.heap_setCell _ _ _ _ (fun e => h01 e.symm)).trans ((hg.block b1 (by have := z1.lt; simp; omega) (z1.not_row (by decide) hr)).trans (Below.heap_alloc W _ _ z1.lt))
  · exact (Below.heap_setCell _ _ _ _ (fun e => h02 e.symm)).trans ((hg.block b2 (by have := z2.lt; simp; omega) (ly_not_row z2 hr)).trans (Below.heap_alloc W _ _ z2.lt))
  · have h1 : SoV (W.alloc o) vs L := hs.kept (World.grownBy_alloc W o none) (fun r e => by cases e)
    have h2 : SoV w1 vs L := h1.kept hg hrow
    refine h2.kept (grownBy_setCell' w1 b0 v') fun r e => ?_
    injection e with e
    subst e
    exact ⟨_, ((hv.alloc o).kept hg ((hv.alloc o).not_row (by decide) (hr.alloc o))), fun cs fz e => by injection e with _ e _; cases e⟩
set_option maxHeartbeats 4000000 in
theorem sts_good (n S : Nat) (h1 : 1 ≤ n) (h8 : n ≤ 8) (hS : S ≤ 7) (c : ByteArray) (hc : c.size ≤ 100000) (w : World) : Calls Try.prog 17 #[.agg #[.int .i64 (n : Int), .int .i64 (S : Int)], .string c] w (StsP (n : Int) (S : Int) (el c) w) := by
  have hL : Lok (n : Int) (S : Int) := ⟨by omega, by omega, by omega, by omega⟩
  have cC := fun W => chk_own (n : Int) (S : Int) W
  unfold lyV at cC
  obtain ⟨z, hz⟩ : ∃ z, n * 28 = z := ⟨_, rfl⟩
  have cB := fun W => sby_own (n : Int) (S : Int) (by omega) W
  rw [show (n : Int) * 28 = (z : Int) by omega] at cB
  have z28 : (28 : Int) ≤ (z : Int) := by omega
  have z224 : (z : Int) ≤ 224 := by omega
  have cR := fun W => stripes_own (n : Int) (S : Int) c W
  have hseq := fun (W : World) b1 b2 h3 h4 => stripes_seq n S h1 h8 hS c hc b1 b2 W h3 h4
  have hfin : ∀ (W : World) (k : Nat) (v : Value) (vs : List Value), W.ownsRow w.heap.size 39 1 v k vs → SsV W vs (sts n S (el c)) → Below w.heap.size w W → StsP (n : Int) (S : Int) (el c) w (.returned (.tuple #[v, .int .i64 0])) W := fun W k v vs h h' h'' => StsP.good hL h h' h''
  obtain ⟨P, hP⟩ : ∃ P, StsP (n : Int) (S : Int) (el c) w = P := ⟨_, rfl⟩
  rw [hP] at hfin ⊢
  have bx := LyBox.new w (n : Int) (S : Int)
  have hb0 := boxed w (.cells #[.int .i64 (n : Int), .int .i64 (S : Int)] 23)
  have hs0 : (w.alloc (.cells #[.int .i64 (n : Int), .int .i64 (S : Int)] 23)).heap.size = w.heap.size + 1 := by simp
  obtain ⟨W0, hW0⟩ : ∃ W0, w.alloc (.cells #[.int .i64 (n : Int), .int .i64 (S : Int)] 23) = W0 := ⟨_, rfl⟩
  rw [hW0] at bx hb0 hs0
  obtain ⟨a0, a1⟩ := bx.cells
  have hsz : (c.size : Int) ≤ 100000 := by omega
  obtain ⟨Z, hZ⟩ : ∃ Z, 65536 * z = Z := ⟨_, rfl⟩
  have eZ : 65536 * (z : Int) = (Z : Int) := by omega
  have Z0 : (Z : Int) ≤ 20000000 := by omega
  have Z1 : decide ((Z : Int) < (c.size : Int)) = false := decide_eq_false (by omega)
  obtain ⟨i0, hi, hi0, hi1, hi2⟩ := info_parts info_strs
  have hcnt : cnt n (el c).length ≤ 100000 := Nat.le_trans (cnt_le h1) (by rw [el_len]; exact hc)
  replace cC := Lib.hid cC
  replace cB := Lib.hid cB
  replace cR := Lib.hid cR
  replace hseq := Lib.hid hseq
  replace hfin := Lib.hid hfin
  replace bx := Lib.hid bx
  replace hb0 := Lib.hid hb0
  replace hs0 := Lib.hid hs0
  replace hL := Lib.hid hL
  replace hcnt := Lib.hid hcnt
  clear hP hz hZ h1 h8 hS
  refine (callsIn_wide (n := 3)).1 ?_
  show CallsIn _ _ _ _ _ _ (fun e w' => P e w')
  refine callsIn_of_wp_marks Try.func17 rfl trivial ?_ rfl
  simp only [Try.ntmps17, List.size_toArray, List.length_cons, List.length_nil, Nat.reduceAdd, Nat.reduceSub, Array.replicate_succ, Array.replicate_zero, List.push_toArray, List.append_toArray, List.nil_append, List.cons_append]
  gi_wp2_with fail
  refine ⟨trivial, (callsIn_wide.2 (cC.out _)).mono ?_⟩
  rintro e w1 ⟨k, hk, rfl, hb1⟩
  obtain rfl : k = 0 := by
    rcases hk with h | h
    · exact h.1
    · exact absurd hL.out h.2
  have bx1 := bx.out.below hb1
  have hb2 := hb0.out.trans (hb1.mono hb0.out.size)
  clear a0 a1 bx hb0 hs0 hW0 hb1 hk cC hL
  obtain ⟨a0, a1⟩ := bx1.cells
  replace bx1 := Lib.hid bx1
  replace hb2 := Lib.hid hb2
  gi_wp2_with fail
  refine ⟨trivial, (callsIn_wide.2 (cB.out _)).mono ?_⟩
  rintro e w2 ⟨rfl, hb3⟩
  have bx2 := bx1.out.below hb3
  have hb4 := chain hb2.out hb3
  clear a0 a1 bx1 hb2 hb3 cB
  obtain ⟨a0, a1⟩ := bx2.cells
  have y0 := Boxed.new w2 34 (.slice none 0 0)
  have hb5 := boxed w2 (.cells #[.slice none 0 0] 34)
  have hs5 : (w2.alloc (.cells #[.slice none 0 0] 34)).heap.size = w2.heap.size + 1 := by simp
  have bx3 := bx2.below hb5
  obtain ⟨W3, hW3⟩ : ∃ W3, w2.alloc (.cells #[.slice none 0 0] 34) = W3 := ⟨_, rfl⟩
  rw [hW3] at y0 hb5 hs5 bx3
  have hb6 := chain hb4 hb5
  obtain ⟨b0, hb00⟩ : ∃ b0, w2.heap.size = b0 := ⟨_, rfl⟩
  have hwb : w.heap.size ≤ b0 := by rw [← hb00]; exact hb4.size
  rw [hb00] at y0 hs5
  obtain ⟨d0, d1⟩ := bx3.cells
  clear a0 a1 bx2 hb4 hb5
  replace y0 := Lib.hid y0
  replace hs5 := Lib.hid hs5
  replace hb6 := Lib.hid hb6
  replace hwb := Lib.hid hwb
  replace bx3 := Lib.hid bx3
  gi_wp2_with fail
  refine ⟨trivial, (callsIn_wide.2 (cR.out _)).mono ?_⟩
  rintro e w4 ⟨rfl, rfl⟩
  have u2 := (LyBox.new W3 (n : Int) (S : Int)).below (boxed (W3.alloc (.cells #[.int .i64 (n : Int), .int .i64 (S : Int)] 23)) (.cells #[.string c] 9))
  have u1 := Boxed.new (W3.alloc (.cells #[.int .i64 (n : Int), .int .i64 (S : Int)] 23)) 9 (.string c)
  have hal := two_made W3 (.cells #[.int .i64 (n : Int), .int .i64 (S : Int)] 23) (.cells #[.string c] 9)
  have hs6 : ((W3.alloc (.cells #[.int .i64 (n : Int), .int .i64 (S : Int)] 23)).alloc (.cells #[.string c] 9)).heap.size = W3.heap.size + 2 := by simp
  rw [World.size_alloc] at u1
  have y1 := boxed_below y0.out hal
  have hb7 := chain hb6.out hal
  obtain ⟨b, hb⟩ : ∃ b, W3.heap.size = b := ⟨_, rfl⟩
  have hbb : b0 < b := by have := hs5.out; omega
  obtain ⟨W4, hW4⟩ : ∃ W, (W3.alloc (.cells #[.int .i64 (n : Int), .int .i64 (S : Int)] 23)).alloc (.cells #[.string c] 9) = W := ⟨_, rfl⟩
  rw [hW4] at u1 u2 y1 hb7 hs6 ⊢
  rw [hb] at u1 u2 hs6 ⊢
  have hww := hwb.out
  clear hW4 hb hal y0 hs5 hb6 d0 d1 bx3 hW3 cR
  gi_wp2
  refine range_told rfl (by omega) (gf := 37) (caps := #[.pointer (some ⟨b + 1, 0, none⟩), .pointer (some ⟨b, 0, none⟩)]) rfl trivial (enters_of Try.func37 (by kernel_rfl) rfl)
    (hseq.out W4 (b + 1) b u1 u2) kp2_t (fun W l o hl => kp2_l (w := W4) (by omega) (by omega) W l o hl)
    (fun pre x W l o hl ⟨r, hr⟩ ⟨t1, t2, t3⟩ => ⟨t1, t2, ownsRow_putObj t3 o hr rfl⟩) (fun _ => rfl)
    (fun pre W => ((∃ v, Boxed W b0 34 v ∧ W.ownsRow w.heap.size 39 1 v pre.length (pre.map Prod.fst) ∧ True) ∧ SoV W (pre.map Prod.fst) (pre.map Prod.snd)) ∧ (Boxed W (b + 1) 9 (.string c) ∧ LyBox W b (n : Int) (S : Int)) ∧ Below w.heap.size w W)
    (OwnFrom.and (OwnFrom.and (Own.from (holdsRow_own w.heap.size b0 34 39 1 (fun pre : List (Value × List (List R)) => pre.length) (fun pre => pre.map Prod.fst) (fun _ _ => True)) _) (Own.from sov_own _)) (OwnFrom.and (OwnFrom.and (Own.from (boxed_own _ _ _) _) (Own.from (lybox_own _ _ _) _)) (ownFrom_below (Nat.le_refl _) (by omega))))
    ⟨⟨⟨_, y1, World.ownsRow_nil _ _ _ _, trivial⟩, SoV.nil _⟩, ⟨u1, u2⟩, hb7⟩
    (fun x => { tmps := #[.agg #[.int .i64 (n : Int), .int .i64 (S : Int)], .string c, .pointer (some ⟨w.heap.size, 0, none⟩), undef, .slice none 0 0, .int .i64 0, .pointer (some ⟨b0, 0, none⟩), x.1, .bool false, .agg #[.int .i64 (n : Int), .int .i64 (S : Int)], .int .i64 0, .bool false, .bool false, .string c, .int .i64 (c.size : Int), .agg #[.int .i64 (n : Int), .int .i64 (S : Int)], .int .i64 (z : Int), .int .i64 (Z : Int), .bool false, .agg #[.int .i64 (n : Int), .int .i64 (S : Int)], .string c, .func (.func 37) #[] #[.pointer (some ⟨b + 1, 0, none⟩), .pointer (some ⟨b, 0, none⟩)], x.1, undef, undef, undef, undef, undef], defers := [] }) ?assign ?body ?done
  case assign =>
    intro l x W K hK
    gi_wp2
    exact hK
  case body =>
    rintro l pre ⟨xv, xs⟩ W ⟨⟨⟨v, bv, rv, -⟩, hso⟩, ⟨z1, z2⟩, hBW⟩ ⟨hlt, hxs, hown⟩
    dsimp only at hown ⊢
    have hso2 : ∀ W' : World, SoV W' (pre.map Prod.fst) (pre.map Prod.snd) → W'.ownsRow 0 9 1 xv (n + S) (bs xs) → SoV W' ((pre ++ [(xv, xs)]).map Prod.fst) ((pre ++ [(xv, xs)]).map Prod.snd) := fun W' h h' => by
      rw [List.map_append, List.map_append]
      refine h.snoc ?_
      have hl : xs.length = n + S := by have := h'.1; rw [bs_len] at this; omega
      rw [hl]
      exact h'
    obtain ⟨A1, c1, rfl, _, _⟩ := own_slice hown
    have e1 : pre.length + 1 ≤ maxLen := by have := hcnt.out; unfold maxLen; omega
    have e2 : (pre.length + 1) * 24 ≤ 140737488355328 := by have := hcnt.out; omega
    have e3 : ∀ o, w.heap.size ≤ (W.alloc o).heap.size := fun o => by have := hBW.size; simp; omega
    have hone : ∀ u ∈ ([.slice A1 (n + S) c1] : List Value), u.oneCell' = true := fun u hu => by rw [List.mem_singleton.1 hu]; rfl
    have hso1 : SoV W ((.slice A1 (n + S) c1 : Value) :: pre.map Prod.fst) (xs :: pre.map Prod.snd) := ⟨by rw [List.length_cons, List.length_cons, hso.len], fun i h1 h2 => by
      cases i with
      | zero =>
        have hl : xs.length = n + S := by have := hown.1; rw [bs_len] at this; omega
        simp only [List.getElem_cons_zero, hl]
        exact hown
      | succ i => exact hso.get i (by simpa using h1) (by simpa using h2)⟩
    have hrk := fun (w1 : World) (o : Obj) (v' : Value) (hg : (W.alloc o).grownBy w1 v.ownBlock) => round_keeps (b0 := b0) (v' := v') bv rv z1 z2 hso1 (by omega) (by omega) hg
    have cv := bv.cell
    replace hrk := Lib.hid hrk
    replace hso2 := Lib.hid hso2
    clear hso hso1 hlt hxs
    gi_wp2_with (gi_at_builtin; refine wpListIn_append_own _ rfl _ _ 34 rfl w.heap.size 39 i0 (.slice none 0 0) 1 24 Try.underlying34 hi hi0 hi1 hi2 rfl (by decide) _ _ _ rfl (rv.alloc _) ⟨W.heap.size, 0, none⟩ 1 1 [.slice A1 (n + S) c1] rfl rfl (one_new _ _ _) hone e1 e2 (e3 _) ?_; intro v' w1 hown' hgrow _; obtain ⟨g', cap', rfl⟩ := ownsRow_succ hown'; obtain ⟨hv1, hv2, hr2, hk2, hb2⟩ := bv.appended (by decide) rv hBW.size hww hown' hgrow; have hc1 := hv1.cell; have hf1 := hv1.frozen)
    obtain ⟨hkp, hsk⟩ := hrk.out _ _ (.slice (some ⟨g', 0, none⟩) (pre.length + 1) cap') hgrow
    refine ⟨hk2, hkp, ⟨⟨⟨_, hv2, ?_, trivial⟩, ?_⟩, ⟨hkp.1.trans z1, hkp.2.trans z2⟩, hBW.trans hb2⟩⟩
    · rw [List.length_append, List.length_singleton, List.map_append]
      exact hr2
    · refine hso2.out _ ⟨by simp, fun i h1 h2 => ?_⟩ ?_
      · have := hsk.get (i + 1) (by simpa using h1) (by simpa using h2)
        exact this
      · have := hsk.get 0 (Nat.succ_pos _) (Nat.succ_pos _)
        simp only [List.getElem_cons_zero] at this
        have hl : xs.length = n + S := by have := hown.1; rw [bs_len] at this; omega
        rw [hl] at this
        exact this
  case done =>
    rintro D ys W hD hys ⟨⟨⟨v, bv, rv, -⟩, hso⟩, -, hBW⟩ hK
    obtain ⟨A1, c1, rfl, _, _⟩ := own_slice rv
    have cv := bv.cell
    have hss := hso.ss
    rw [hys] at hss
    have hown2 := ownsRow_putObj (o' := .deferred none) rv hK rfl
    have hso2 : SoV (W.putObj D (.deferred none)) (ys.map Prod.fst) (ys.map Prod.snd) := hso.kept (grownBy_putObj' W D _) fun r e => by
      injection e with e
      subst e
      exact ⟨_, hK, fun cs fz e => by cases e⟩
    have hss2 := hso2.ss
    rw [hys] at hss2
    have hb2 : Below w.heap.size w (W.putObj D (.deferred none)) := hBW.trans (belowK_b (w := W4) (n₀ := w.heap.size) (by omega) W D _ _ hD hK rfl rfl)
    have hf := Lib.hid (hfin.out _ _ _ _ hown2 hss2 hb2)
    clear hso hss hown2 hso2 hss2 hb2 hfin hseq
    gi_wp2
    refine ⟨by simp, .inl ⟨_, _, rfl, run_takeDeferred hK, ?_⟩⟩
    refine ⟨_, results_tmp2 rfl _ _ _, ?_⟩
    exact hf.out
set_option maxHeartbeats 4000000 in
theorem sts_own (D S : Int) (c : ByteArray) (hc : c.size ≤ 100000) (w : World) : Calls Try.prog 17 #[lyV D S, .string c] w (StsP D S (el c) w) := by
  by_cases hL : Lok D S
  · obtain ⟨n, rfl⟩ := Int.eq_ofNat_of_zero_le (show 0 ≤ D by have := hL.1; omega)
    obtain ⟨m, rfl⟩ := Int.eq_ofNat_of_zero_le hL.2.2.1
    exact sts_good n m (by have := hL.1; omega) (by have := hL.2.1; omega) (by have := hL.2.2.2; omega) c hc w
  · have cC := fun W => chk_own D S W
    unfold lyV at cC ⊢
    have bad := fun (w' : World) (hb : Below w.heap.size w w') => StsP.bad (x := el c) hL hb
    obtain ⟨P, hP⟩ : ∃ P, StsP D S (el c) w = P := ⟨_, rfl⟩
    rw [hP] at bad ⊢
    have bx := LyBox.new w D S
    have hb0 := boxed w (.cells #[.int .i64 D, .int .i64 S] 23)
    obtain ⟨W0, hW0⟩ : ∃ W0, w.alloc (.cells #[.int .i64 D, .int .i64 S] 23) = W0 := ⟨_, rfl⟩
    rw [hW0] at bx hb0
    obtain ⟨a0, a1⟩ := bx.cells
    replace cC := Lib.hid cC
    replace bad := Lib.hid bad
    replace hb0 := Lib.hid hb0
    replace hL := Lib.hid hL
    clear hP bx
    show Calls _ _ _ _ (fun e w' => P e w')
    go_enter Try.func17, Try.ntmps17
    go_wp2_with fail
    refine (cC.out _).mono ?_
    rintro e w1 ⟨k, hk, rfl, hb1⟩
    obtain rfl : k = 2 := by
      rcases hk with h | h
      · exact absurd h.2 hL.out
      · exact h.1
    have fin := Lib.hid (bad.out _ (chain hb0.out hb1))
    clear a0 a1 hW0 cC bad hb0 hb1 hk
    go_wp2
    first | go_ret2 | skip
    exact fin.out
end Go.Proofs.Ytcfoclmkhippoaa.L16
