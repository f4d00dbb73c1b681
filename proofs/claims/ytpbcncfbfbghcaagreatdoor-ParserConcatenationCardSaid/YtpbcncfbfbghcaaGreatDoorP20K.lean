/- Statements of the landed reader: choice (layer 20). Statements of the landed reader: statement (layer 20). -/
import Derived.Test.YtpbcncfbfbghcaaGreatDoorP20J
import Derived.Deep.CutRange
import Derived.Deep.Cut
namespace Go.Proofs.YtpbcncfbfbghcaaGreatDoor.L20
set_option maxRecDepth 100000
open Go.RowKit Mem L19
set_option linter.unusedVariables false
set_option linter.unusedSimpArgs false

theorem exs_oneF {W : World} {F : Nat → Prop} {x : Exp} {c : List Value} {T : TypeId} (h : ExC W F x c) (hn : F W.heap.size) : Exs (W.alloc (.cells c.toArray T)) F [x] (some ⟨W.heap.size, 0, none⟩) 1 := by
  have h1 := RowA.lit (w := W) (s := 4) (css := [c]) (T := T) (fun d hd => by rw [List.mem_singleton.1 hd]; exact h.len) (by show 1 ≤ maxLen; decide)
  rw [List.flatten_cons, List.flatten_nil, List.append_nil] at h1
  refine ⟨[c], h1.mono fun b hl hb => (by rw [World.size_alloc] at hl; have : b = W.heap.size := (by omega); rw [this]; exact hn), fun i y d hy hd => ?_⟩
  match i, hy, hd with
  | 0, hy, hd =>
    injection hy with hy
    injection hd with hd
    subst hy hd
    exact h.keep (Kept.of_below (boxed W _))
theorem Blk.set6 {T : TypeId} {W : World} {g : Nat} {c0 c1 c2 c3 c4 c5 : Value} (h : Blk T W g [c0, c1, c2, c3, c4, c5]) (d0 d1 d2 d3 d4 d5 : Value) : Blk T ((((((W.setCell ⟨g, 0, none⟩ d0).setCell ⟨g, 1, none⟩ d1).setCell ⟨g, 2, none⟩ d2).setCell ⟨g, 3, none⟩ d3).setCell ⟨g, 4, none⟩ d4).setCell ⟨g, 5, none⟩ d5) g [d0, d1, d2, d3, d4, d5] := (((((h.set 0 _).set 1 _).set 2 _).set 3 _).set 4 _).set 5 _
theorem Blk.other6 {T : TypeId} {W : World} {g g' : Nat} {cs : List Value} (h : Blk T W g cs) (hg : g ≠ g') (d0 d1 d2 d3 d4 d5 : Value) : Blk T ((((((W.setCell ⟨g', 0, none⟩ d0).setCell ⟨g', 1, none⟩ d1).setCell ⟨g', 2, none⟩ d2).setCell ⟨g', 3, none⟩ d3).setCell ⟨g', 4, none⟩ d4).setCell ⟨g', 5, none⟩ d5) g cs := Blk.other (Blk.other (Blk.other (Blk.other (Blk.other (Blk.other h hg _) hg _) hg _) hg _) hg _) hg _
theorem Kept.set6 {F : Nat → Prop} (W : World) {g : Nat} (hF : ¬ F g) (d0 d1 d2 d3 d4 d5 : Value) : Kept F W ((((((W.setCell ⟨g, 0, none⟩ d0).setCell ⟨g, 1, none⟩ d1).setCell ⟨g, 2, none⟩ d2).setCell ⟨g, 3, none⟩ d3).setCell ⟨g, 4, none⟩ d4).setCell ⟨g, 5, none⟩ d5) :=
  (((((Kept.set W hF d0).trans (Kept.set _ hF d1)).trans (Kept.set _ hF d2)).trans (Kept.set _ hF d3)).trans (Kept.set _ hF d4)).trans (Kept.set _ hF d5)
theorem Gr.set6 {B : Nat} {w W : World} (h : Gr B w W) {g : Nat} (hg : w.heap.size ≤ g) (d0 d1 d2 d3 d4 d5 : Value) : Gr B w ((((((W.setCell ⟨g, 0, none⟩ d0).setCell ⟨g, 1, none⟩ d1).setCell ⟨g, 2, none⟩ d2).setCell ⟨g, 3, none⟩ d3).setCell ⟨g, 4, none⟩ d4).setCell ⟨g, 5, none⟩ d5) := Gr.set (Gr.set (Gr.set (Gr.set (Gr.set (Gr.set h hg _) hg _) hg _) hg _) hg _) hg _
theorem RdS.set6 {base B k o : Nat} {l : List L19.Tok} {W : World} (h : RdS base B l k o W) {g : Nat} (hg : base ≤ g) (d0 d1 d2 d3 d4 d5 : Value) : RdS base B l k o ((((((W.setCell ⟨g, 0, none⟩ d0).setCell ⟨g, 1, none⟩ d1).setCell ⟨g, 2, none⟩ d2).setCell ⟨g, 3, none⟩ d3).setCell ⟨g, 4, none⟩ d4).setCell ⟨g, 5, none⟩ d5) := (((((h.set hg 0 _).set hg 1 _).set hg 2 _).set hg 3 _).set hg 4 _).set hg 5 _
/-- An if statement, as the landed code reads it. -/
def elseP (n o : Nat) (x : Exp) (a : List Sta) (ts : List Tk) : Option (Rs Sta) := if sg kElse ts then bnd (some (want kElse ts)) fun _ ts => bnd (L20.block n o ts) fun b ts => some (.ok (.ifs x a b) ts) else some (.ok (.ifs x a []) ts)
def choP (n o : Nat) (ts : List Tk) : Option (Rs Sta) := bnd (some (want kIf ts)) fun _ ts => bnd (expr n 1 o ts) fun x ts => bnd (L20.block n o ts) fun a ts => elseP n o x a ts
theorem ks_if : Ks kIf := ⟨3, .inl rfl, k_if⟩
theorem ks_else : Ks kElse := ⟨3, .inl rfl, k_else⟩
theorem ks_while : Ks kWhile := ⟨3, .inl rfl, k_while⟩
theorem ks_return : Ks kReturn := ⟨3, .inl rfl, k_return⟩
theorem ks_halt : Ks kHalt := ⟨3, .inl rfl, k_halt⟩
section
variable {base B k o : Nat} {l : List L19.Tok} {w : World}
set_option maxHeartbeats 8000000 in
theorem choice_any {n : Nat} (hBk : BlkC base B l n) (h : RdS base B l k o w) {r : Rs Sta} (hr : choP n o (at_ l k) = some r) :
    Calls Tryz.prog 154 #[.pointer (some ⟨B, 0, none⟩)] w (Ae base B l o w (StR fun b => w.heap.size ≤ b) r) := by
  unfold choP at hr
  obtain ⟨W0, g, hW0, hg0, hb0, hst0, hgr0, hbg, hgl, hgB⟩ := start_box h szero 104
  have c1 := Lib.hid (expect_any hst0 ks_if (S := ⟨#[105, 102]⟩) rfl)
  unfold szero at hW0 hb0
  have hlow := h.low
  replace hr := Lib.hid hr
  replace hb0 := Lib.hid hb0
  replace hgr0 := Lib.hid hgr0
  replace hBk := Lib.hid hBk
  clear h hst0
  go_enter Tryz.func154, Tryz.ntmps154
  go_wp2_with fail
  refine (c1.out).mono ?_
  rintro e w1 (⟨a1, k1, v1, hx1, rfl, hv1, hst1, hg1⟩ | ⟨c, ts, hx1, rfl, hg1⟩)
  case inr => exact ⟨rfl, Ae.bad (bad_of hr.out hx1) (hgr0.out.trans hg1)⟩
  unfold UnitR at hv1
  subst hv1
  obtain ⟨q2, hq2, hr2⟩ := opt_of (ok_of hr.out hx1)
  have c2 := Lib.hid (exprC base B l n n (Nat.le_refl _) o k1 w1 q2 hst1 hq2)
  have hgr1 := Lib.hid (hgr0.out.trans hg1)
  have hb1 := Lib.hid (hg1.blk hb0.out hgB)
  have hs1 := hg1.size
  replace hr2 := Lib.hid hr2
  clear hr c1 hx1 hst1 hg1 hgr0 hb0 hq2 hW0
  go_wp2_with fail
  refine (c2.out).mono ?_
  rintro e w2 (⟨x, k2, v2, hx2, rfl, ⟨S, T, N, A, L, cap, rfl, hC2⟩, hst2, hg2⟩ | ⟨c, ts, hx2, rfl, hg2⟩)
  case inr => exact ⟨rfl, Ae.bad (bad_of hr2.out hx2) (hgr1.out.trans hg2)⟩
  obtain ⟨q3, hq3, hr4⟩ := opt_of (ok_of hr2.out hx2)
  have hs2 := hg2.size
  obtain ⟨n1, hn1⟩ : ∃ n1, w1.heap.size = n1 := ⟨_, rfl⟩
  rw [hn1] at hC2 hs1 hs2
  have hgn : g < n1 := by omega
  have hBn : B < n1 := by omega
  have hgg : w.heap.size ≤ g := by omega
  obtain ⟨W3, g3, hW3, hg3, hb3, hst3, hgr3, hbg3, hgl3, hgB3⟩ := start_box hst2 [.string S, .int .u32 N, .string T, .slice A L cap] 51
  have hbl3 : Below w2.heap.size w2 W3 := by rw [← hW3]; exact boxed w2 _
  have hb03 := (hg2.blk hb1.out hgB).below hbl3
  have hgr3 := Gr.below (hgr1.out.trans hg2) hbl3
  have hC3 : ExC W3 (fun b => n1 ≤ b ∧ b < W3.heap.size) x [.string S, .int .u32 N, .string T, .slice A L cap] := (hC2.keep (Kept.of_below hbl3)).mono fun b hb h => ⟨h, hb⟩
  have cS : ∀ W, Below W3.heap.size W3 W → Calls Tryz.prog 156 #[.pointer (some ⟨B, 0, none⟩)] W (fun e w5 => (∃ (la : List Sta) (k5 : Nat) (A5 : Option Addr) (L5 cap5 : Nat), e = .returned (.slice A5 L5 cap5) ∧
      Hid (elseP n o x la (at_ l k5) = some r) ∧ Hid (RdS base B l k5 o w5) ∧ Hid (Gr B w w5) ∧ Hid (Blk 104 w5 g [.int .i64 0, .string ⟨#[]⟩, .slice none 0 0, .slice none 0 0, .slice none 0 0, .slice none 0 0]) ∧ Hid (Blk 51 w5 g3 [.string S, .int .u32 N, .string T, .slice A L cap]) ∧
      Hid (ExC w5 (fun b => n1 ≤ b ∧ b < W3.heap.size) x [.string S, .int .u32 N, .string T, .slice A L cap]) ∧ Hid (la.length = L5) ∧ Hid (Sts w5 (fun b => W.heap.size ≤ b ∧ b < w5.heap.size) la A5 cap5) ∧ Hid (Gr B W w5)) ∨ (∃ c ts, e = .panicked [fl (lnAt l ts) c] ∧ Hid (Ae base B l o w (StR fun b => w.heap.size ≤ b) r (.panicked [fl (lnAt l ts) c]) w5))) := fun W hW => by
    refine (hBk n (Nat.le_refl _) o _ W q3 (hst3.below hW) hq3).mono ?_
    rintro e w5 (⟨la, k5, v5, hx5, rfl, ⟨A5, L5, cap5, rfl, hL5, hC5⟩, hst5, hg5⟩ | ⟨c, ts, hx5, rfl, hg5⟩)
    · have hs := hW.size
      exact .inl ⟨la, k5, A5, L5, cap5, rfl, Lib.hid (ok_of hr4 hx5), Lib.hid hst5, Lib.hid ((Gr.below hgr3 hW).trans hg5), Lib.hid (hg5.blk (hb03.below hW) hgB), Lib.hid (hg5.blk (hb3.below hW) hgB3), Lib.hid ((hC3.keep (Kept.of_below hW)).keep (Gr.kept hg5 fun b h => by omega)), Lib.hid hL5, Lib.hid (hC5.mono fun b hb h => ⟨h, hb⟩), Lib.hid hg5⟩
    · exact .inr ⟨c, ts, rfl, Lib.hid (Ae.bad (bad_of hr4 hx5) ((Gr.below hgr3 hW).trans hg5))⟩
  obtain ⟨Wd, hWd⟩ : ∃ W, W3.drew = W := ⟨_, rfl⟩
  have hWb : Below W3.heap.size W3 Wd := by rw [← hWd]; exact below_drewB (Below.refl _ _)
  have keep0 : Blk 51 W3.drew g3 [.string S, .int .u32 N, .string T, .slice A L cap] := hb3
  have hC3d := hC3.keep (Kept.of_below hWb)
  have hn3 : n1 ≤ W3.heap.size := by have := hbl3.size; omega
  replace hC3d := Lib.hid hC3d
  replace hWd := Lib.hid hWd
  replace hWb := Lib.hid hWb
  replace cS := Lib.hid cS
  replace hBk := Lib.hid (fun (o k : Nat) (w : World) (r : Rs (List Sta)) => hBk.out n (Nat.le_refl _) o k w r)
  clear hr2 hx2 hst2 hg2 hC2 hbl3 hgr1 hb1 c2 hq3 hb03 hb3 hgr3 hC3 hr4 hst3 hn1
  go_wp2_with fail
  go_cut [4] from 9 to 13 (fun p4 W => ∃ (g4 : Nat) (la : List Sta) (k5 : Nat) (V : Addr) (A5 : Option Addr) (L5 cap5 : Nat), p4 = .pointer (some ⟨g4, 0, none⟩) ∧ Hid (elseP n o x la (at_ l k5) = some r) ∧ Hid (RdS base B l k5 o W) ∧ Hid (Gr B w W) ∧
    Hid (Blk 104 W g [.int .i64 0, .string ⟨#[]⟩, .slice none 0 0, .slice none 0 0, .slice none 0 0, .slice none 0 0]) ∧ Hid (Blk 104 W g4 [.int .i64 3, .string ⟨#[]⟩, .slice none 0 0, .slice (some V) 1 1, .slice A5 L5 cap5, .slice none 0 0]) ∧ Hid (Exs W (fun b => n1 ≤ b ∧ b ≠ g4) [x] (some V) 1) ∧ Hid (la.length = L5) ∧ Hid (Sts W (fun b => n1 ≤ b ∧ b ≠ g4) la A5 cap5) ∧ n1 ≤ g4 ∧ g4 < W.heap.size)
  case first =>
    refine wp_region_held_drew (S := fun W => Blk 51 W g3 [.string S, .int .u32 N, .string T, .slice A L cap]) (by kernel_rfl) keep0 (fun hHeld => ?_)
    rw [hWd.out] at hHeld ⊢
    refine wpAnyH_take (i := 0) (v := .agg #[.string S, .int .u32 N, .string T, .slice A L cap]) rfl (by kernel_rfl) (by kernel_rfl) (by kernel_rfl) (fun _ _ _ h => h) (Or.inl ⟨by rfl, ?ha⟩) (by assumption) ?ra
    case ha =>
      intro W hW
      obtain ⟨z0, z1, z2, z3, _, _, _, _⟩ := ex_box hW
      go_simp
    try simp only [Act.put, List.setIfInBounds_toArray, List.set_cons_zero, List.set_cons_succ]
    refine wpAnyH_take (i := 2) (v := .pointer (some ⟨B, 0, none⟩)) rfl (by kernel_rfl) (by kernel_rfl) (by kernel_rfl) (fun _ _ _ h => h) (Or.inl ⟨by rfl, ?hb⟩) (by assumption) ?rb
    case hb =>
      intro W hW
      go_simp
    try simp only [Act.put, List.setIfInBounds_toArray, List.set_cons_zero, List.set_cons_succ]
    refine wpAnyH_ready (rs := [1, 3, 5]) (by kernel_rfl) (by simp) ?_
    refine AllReadyH.cons rfl (fun K hK => ?_) (AllReadyH.cons rfl (fun K hK => ?_) (AllReadyH.cons rfl (fun K hK => ?_) AllReadyH.nil))
    · go_simp
      refine Shut.out hK _ _ (by exact Blk.below (by assumption) (boxed Wd _)) (fun hHeld => ?_)
      try simp only [Act.put, List.setIfInBounds_toArray, List.set_cons_zero, List.set_cons_succ]
      obtain ⟨P1, hP1⟩ : ∃ W, Wd.alloc (.cells #[.string S, .int .u32 N, .string T, .slice A L cap] 51) = W := ⟨_, rfl⟩
      rw [hP1] at hHeld ⊢
      have bP1 : Below Wd.heap.size Wd P1 := by rw [← hP1]; exact boxed Wd _
      have sP1 : P1.heap.size = Wd.heap.size + 1 := by rw [← hP1, World.size_alloc]
      replace sP1 := Lib.hid sP1
      have hrowP1 : Exs P1 (fun b => (n1 ≤ b ∧ b < W3.heap.size) ∨ b = Wd.heap.size) [x] (some ⟨Wd.heap.size, 0, none⟩) 1 := by rw [← hP1]; exact exs_oneF (ExC.mono hC3d.out fun b _ h => Or.inl h) (Or.inr rfl)
      have hexP1 := ExC.keep hC3d.out (Kept.of_below bP1)
      have hbdP1 : Below W3.heap.size W3 P1 := hWb.out.trans (bP1.mono hWb.out.size)
      refine wpAnyH_ready (rs := [3, 5]) (by kernel_rfl) (by simp) ?_
      refine AllReadyH.cons rfl (fun K hK => ?_) (AllReadyH.cons rfl (fun K hK => ?_) AllReadyH.nil)
      · go_simp
        refine (cS.out P1 hbdP1).mono ?_
        rintro e w5 (⟨la, k5, A5, L5, cap5, rfl, i1, i2, i3, i4, i5, i6, i7, i8, i9⟩ | ⟨c, ts, rfl, i1⟩)
        case inr => exact ⟨rfl, i1.out⟩
        have hdz := hbdP1.size
        have hsz5 := i9.out.size
        refine Shut.out hK _ _ i5.out (fun hHeld => ?_)
        try simp only [Act.put, List.setIfInBounds_toArray, List.set_cons_zero, List.set_cons_succ]
        have hrow5 := hrowP1.keep (Gr.kept i9.out fun b h => by have := hWb.out.size; have := sP1.out; rcases h with h | h <;> omega)
        refine wpAnyH_take (i := 4) (v := .agg #[.int .i64 3, .string ⟨#[]⟩, .slice none 0 0, .slice (some ⟨Wd.heap.size, 0, none⟩) 1 1, .slice A5 L5 cap5, .slice none 0 0]) rfl (by kernel_rfl) (by kernel_rfl) (by kernel_rfl) (fun _ _ _ h => h) (Or.inl ⟨by rfl, ?ht1⟩) (by assumption) ?rt1
        case ht1 =>
          intro W hW
          go_simp
        try simp only [Act.put, List.setIfInBounds_toArray, List.set_cons_zero, List.set_cons_succ]
        refine wpAnyH_ready (rs := [5]) (by kernel_rfl) (by simp) ?_
        refine AllReadyH.cons rfl (fun K hK => ?_) AllReadyH.nil
        · go_simp
          refine Shut.out hK _ _ (by exact Blk.below (by assumption) (boxed w5 _)) (fun hHeld => ?_)
          try simp only [Act.put, List.setIfInBounds_toArray, List.set_cons_zero, List.set_cons_succ]
          obtain ⟨Q1, hQ1⟩ : ∃ W, w5.alloc (.cells #[.int .i64 0, .string ⟨#[]⟩, .slice none 0 0, .slice none 0 0, .slice none 0 0, .slice none 0 0] 104) = W := ⟨_, rfl⟩
          rw [hQ1] at hHeld ⊢
          have bQ1 : Below w5.heap.size w5 Q1 := by rw [← hQ1]; exact boxed w5 _
          have sQ1 : Q1.heap.size = w5.heap.size + 1 := by rw [← hQ1, World.size_alloc]
          replace sQ1 := Lib.hid sQ1
          have hrowQ1 := hrow5.keep (Kept.of_below bQ1)
          have hboxQ1 : Blk 104 Q1 w5.heap.size [.int .i64 0, .string ⟨#[]⟩, .slice none 0 0, .slice none 0 0, .slice none 0 0, .slice none 0 0] := by rw [← hQ1]; exact Blk.new w5 _ _
          have hexQ1 := ExC.keep i6.out (Kept.of_below bQ1)
          have hb5Q1 : Below w5.heap.size w5 Q1 := bQ1
          refine wpAnyH_ready (rs := [6]) (by kernel_rfl) (by simp) ?_
          refine AllReadyH.cons rfl (fun K hK => ?_) AllReadyH.nil
          obtain ⟨u0, u1, u2, u3, u4, u5, e0, e1, e2, e3, e4, e5⟩ := st_box hboxQ1
          go_simp
          refine Shut.out hK _ _ (Blk.other6 (by assumption) (by have := hWb.out.size; have := sP1.out; have := sQ1.out; omega) _ _ _ _ _ _) (fun hHeld => ?_)
          refine wpAnyH_done (by kernel_rfl) ?_ _
          have hbase : base ≤ w5.heap.size := by have := hWb.out.size; have := sP1.out; have := sQ1.out; omega
          have hwU : w.heap.size ≤ w5.heap.size := by have := hWb.out.size; have := sP1.out; have := sQ1.out; omega
          have hn4 : n1 ≤ w5.heap.size := by have := hWb.out.size; have := sP1.out; have := sQ1.out; omega
          have j1 := Blk.set6 hboxQ1 (.int .i64 3) (.string ⟨#[]⟩) (.slice none 0 0) (.slice (some ⟨Wd.heap.size, 0, none⟩) 1 1) (.slice A5 L5 cap5) (.slice none 0 0)
          have j2 := Blk.other6 (i4.out.below hb5Q1) (show g ≠ w5.heap.size by have := hWb.out.size; have := sP1.out; have := sQ1.out; omega) (.int .i64 3) (.string ⟨#[]⟩) (.slice none 0 0) (.slice (some ⟨Wd.heap.size, 0, none⟩) 1 1) (.slice A5 L5 cap5) (.slice none 0 0)
          have j3 := RdS.set6 (i2.out.below hb5Q1) hbase (.int .i64 3) (.string ⟨#[]⟩) (.slice none 0 0) (.slice (some ⟨Wd.heap.size, 0, none⟩) 1 1) (.slice A5 L5 cap5) (.slice none 0 0)
          have j4 := Gr.set6 (Gr.below i3.out hb5Q1) hwU (.int .i64 3) (.string ⟨#[]⟩) (.slice none 0 0) (.slice (some ⟨Wd.heap.size, 0, none⟩) 1 1) (.slice A5 L5 cap5) (.slice none 0 0)
          have hrF := Exs.mono (G := fun b => n1 ≤ b ∧ b ≠ w5.heap.size) (hrowQ1) fun b hb h => by have := hWb.out.size; have := sP1.out; have := sQ1.out; rcases h with h | h <;> constructor <;> omega
          have hsF := Sts.mono (G := fun b => n1 ≤ b ∧ b ≠ w5.heap.size) (i8.out.keep (Kept.of_below hb5Q1)) fun b hb h => by have := hWb.out.size; have := sP1.out; have := sQ1.out; constructor <;> omega
          have kF := Kept.set6 (F := fun b => n1 ≤ b ∧ b ≠ w5.heap.size) Q1 (g := w5.heap.size) (fun h => h.2 rfl) (.int .i64 3) (.string ⟨#[]⟩) (.slice none 0 0) (.slice (some ⟨Wd.heap.size, 0, none⟩) 1 1) (.slice A5 L5 cap5) (.slice none 0 0)
          have j5 := hrF.keep kF
          have j6 := hsF.keep kF
          have hlt := j1.lt
          clear hHeld hK hrF hsF kF
          go_wp2_with fail
          go_meet
          case rel => exact ⟨_, la, k5, _, A5, L5, cap5, rfl, i1, Lib.hid j3, Lib.hid j4, Lib.hid j2, Lib.hid j1, Lib.hid j5, i7, Lib.hid j6, hn4, hlt⟩
      · go_simp
        refine Shut.out hK _ _ (by exact Blk.below (by assumption) (boxed P1 _)) (fun hHeld => ?_)
        try simp only [Act.put, List.setIfInBounds_toArray, List.set_cons_zero, List.set_cons_succ]
        obtain ⟨P2, hP2⟩ : ∃ W, P1.alloc (.cells #[.int .i64 0, .string ⟨#[]⟩, .slice none 0 0, .slice none 0 0, .slice none 0 0, .slice none 0 0] 104) = W := ⟨_, rfl⟩
        rw [hP2] at hHeld ⊢
        have bP2 : Below P1.heap.size P1 P2 := by rw [← hP2]; exact boxed P1 _
        have sP2 : P2.heap.size = P1.heap.size + 1 := by rw [← hP2, World.size_alloc]
        replace sP2 := Lib.hid sP2
        have hrowP2 := hrowP1.keep (Kept.of_below bP2)
        have hboxP2 : Blk 104 P2 P1.heap.size [.int .i64 0, .string ⟨#[]⟩, .slice none 0 0, .slice none 0 0, .slice none 0 0, .slice none 0 0] := by rw [← hP2]; exact Blk.new P1 _ _
        have hexP2 := ExC.keep hexP1 (Kept.of_below bP2)
        have hbdP2 : Below W3.heap.size W3 P2 := hbdP1.trans (bP2.mono hbdP1.size)
        refine wpAnyH_ready (rs := [3]) (by kernel_rfl) (by simp) ?_
        refine AllReadyH.cons rfl (fun K hK => ?_) AllReadyH.nil
        · go_simp
          refine (cS.out P2 hbdP2).mono ?_
          rintro e w5 (⟨la, k5, A5, L5, cap5, rfl, i1, i2, i3, i4, i5, i6, i7, i8, i9⟩ | ⟨c, ts, rfl, i1⟩)
          case inr => exact ⟨rfl, i1.out⟩
          have hdz := hbdP2.size
          have hsz5 := i9.out.size
          refine Shut.out hK _ _ i5.out (fun hHeld => ?_)
          try simp only [Act.put, List.setIfInBounds_toArray, List.set_cons_zero, List.set_cons_succ]
          have hrow5 := hrowP2.keep (Gr.kept i9.out fun b h => by have := hWb.out.size; have := sP1.out; have := sP2.out; rcases h with h | h <;> omega)
          have hbox5 := Gr.blk i9.out hboxP2 (by have := hWb.out.size; have := sP1.out; have := sP2.out; omega)
          refine wpAnyH_take (i := 4) (v := .agg #[.int .i64 3, .string ⟨#[]⟩, .slice none 0 0, .slice (some ⟨Wd.heap.size, 0, none⟩) 1 1, .slice A5 L5 cap5, .slice none 0 0]) rfl (by kernel_rfl) (by kernel_rfl) (by kernel_rfl) (fun _ _ _ h => h) (Or.inl ⟨by rfl, ?ht2⟩) (by assumption) ?rt2
          case ht2 =>
            intro W hW
            go_simp
          try simp only [Act.put, List.setIfInBounds_toArray, List.set_cons_zero, List.set_cons_succ]
          refine wpAnyH_ready (rs := [6]) (by kernel_rfl) (by simp) ?_
          refine AllReadyH.cons rfl (fun K hK => ?_) AllReadyH.nil
          obtain ⟨u0, u1, u2, u3, u4, u5, e0, e1, e2, e3, e4, e5⟩ := st_box hbox5
          go_simp
          refine Shut.out hK _ _ (Blk.other6 (by assumption) (by have := hWb.out.size; have := sP1.out; have := sP2.out; omega) _ _ _ _ _ _) (fun hHeld => ?_)
          refine wpAnyH_done (by kernel_rfl) ?_ _
          have hbase : base ≤ P1.heap.size := by have := hWb.out.size; have := sP1.out; have := sP2.out; omega
          have hwU : w.heap.size ≤ P1.heap.size := by have := hWb.out.size; have := sP1.out; have := sP2.out; omega
          have hn4 : n1 ≤ P1.heap.size := by have := hWb.out.size; have := sP1.out; have := sP2.out; omega
          have j1 := Blk.set6 hbox5 (.int .i64 3) (.string ⟨#[]⟩) (.slice none 0 0) (.slice (some ⟨Wd.heap.size, 0, none⟩) 1 1) (.slice A5 L5 cap5) (.slice none 0 0)
          have j2 := Blk.other6 (i4.out) (show g ≠ P1.heap.size by have := hWb.out.size; have := sP1.out; have := sP2.out; omega) (.int .i64 3) (.string ⟨#[]⟩) (.slice none 0 0) (.slice (some ⟨Wd.heap.size, 0, none⟩) 1 1) (.slice A5 L5 cap5) (.slice none 0 0)
          have j3 := RdS.set6 (i2.out) hbase (.int .i64 3) (.string ⟨#[]⟩) (.slice none 0 0) (.slice (some ⟨Wd.heap.size, 0, none⟩) 1 1) (.slice A5 L5 cap5) (.slice none 0 0)
          have j4 := Gr.set6 (i3.out) hwU (.int .i64 3) (.string ⟨#[]⟩) (.slice none 0 0) (.slice (some ⟨Wd.heap.size, 0, none⟩) 1 1) (.slice A5 L5 cap5) (.slice none 0 0)
          have hrF := Exs.mono (G := fun b => n1 ≤ b ∧ b ≠ P1.heap.size) (hrow5) fun b hb h => by have := hWb.out.size; have := sP1.out; have := sP2.out; rcases h with h | h <;> constructor <;> omega
          have hsF := Sts.mono (G := fun b => n1 ≤ b ∧ b ≠ P1.heap.size) (i8.out) fun b hb h => by have := hWb.out.size; have := sP1.out; have := sP2.out; constructor <;> omega
          have kF := Kept.set6 (F := fun b => n1 ≤ b ∧ b ≠ P1.heap.size) w5 (g := P1.heap.size) (fun h => h.2 rfl) (.int .i64 3) (.string ⟨#[]⟩) (.slice none 0 0) (.slice (some ⟨Wd.heap.size, 0, none⟩) 1 1) (.slice A5 L5 cap5) (.slice none 0 0)
          have j5 := hrF.keep kF
          have j6 := hsF.keep kF
          have hlt := j1.lt
          clear hHeld hK hrF hsF kF
          go_wp2_with fail
          go_meet
          case rel => exact ⟨_, la, k5, _, A5, L5, cap5, rfl, i1, Lib.hid j3, Lib.hid j4, Lib.hid j2, Lib.hid j1, Lib.hid j5, i7, Lib.hid j6, hn4, hlt⟩
    · go_simp
      refine (cS.out Wd hWb.out).mono ?_
      rintro e w5 (⟨la, k5, A5, L5, cap5, rfl, i1, i2, i3, i4, i5, i6, i7, i8, i9⟩ | ⟨c, ts, rfl, i1⟩)
      case inr => exact ⟨rfl, i1.out⟩
      have hdz := hWb.out.size
      have hsz5 := i9.out.size
      refine Shut.out hK _ _ i5.out (fun hHeld => ?_)
      try simp only [Act.put, List.setIfInBounds_toArray, List.set_cons_zero, List.set_cons_succ]
      refine wpAnyH_ready (rs := [1, 5]) (by kernel_rfl) (by simp) ?_
      refine AllReadyH.cons rfl (fun K hK => ?_) (AllReadyH.cons rfl (fun K hK => ?_) AllReadyH.nil)
      · go_simp
        refine Shut.out hK _ _ (by exact Blk.below (by assumption) (boxed w5 _)) (fun hHeld => ?_)
        try simp only [Act.put, List.setIfInBounds_toArray, List.set_cons_zero, List.set_cons_succ]
        obtain ⟨Q1, hQ1⟩ : ∃ W, w5.alloc (.cells #[.string S, .int .u32 N, .string T, .slice A L cap] 51) = W := ⟨_, rfl⟩
        rw [hQ1] at hHeld ⊢
        have bQ1 : Below w5.heap.size w5 Q1 := by rw [← hQ1]; exact boxed w5 _
        have sQ1 : Q1.heap.size = w5.heap.size + 1 := by rw [← hQ1, World.size_alloc]
        replace sQ1 := Lib.hid sQ1
        have hrowQ1 : Exs Q1 (fun b => (n1 ≤ b ∧ b < W3.heap.size) ∨ b = w5.heap.size) [x] (some ⟨w5.heap.size, 0, none⟩) 1 := by rw [← hQ1]; exact exs_oneF (ExC.mono i6.out fun b _ h => Or.inl h) (Or.inr rfl)
        have hexQ1 := ExC.keep i6.out (Kept.of_below bQ1)
        have hb5Q1 : Below w5.heap.size w5 Q1 := bQ1
        refine wpAnyH_take (i := 4) (v := .agg #[.int .i64 3, .string ⟨#[]⟩, .slice none 0 0, .slice (some ⟨w5.heap.size, 0, none⟩) 1 1, .slice A5 L5 cap5, .slice none 0 0]) rfl (by kernel_rfl) (by kernel_rfl) (by kernel_rfl) (fun _ _ _ h => h) (Or.inl ⟨by rfl, ?ht3⟩) (by assumption) ?rt3
        case ht3 =>
          intro W hW
          go_simp
        try simp only [Act.put, List.setIfInBounds_toArray, List.set_cons_zero, List.set_cons_succ]
        refine wpAnyH_ready (rs := [5]) (by kernel_rfl) (by simp) ?_
        refine AllReadyH.cons rfl (fun K hK => ?_) AllReadyH.nil
        · go_simp
          refine Shut.out hK _ _ (by exact Blk.below (by assumption) (boxed Q1 _)) (fun hHeld => ?_)
          try simp only [Act.put, List.setIfInBounds_toArray, List.set_cons_zero, List.set_cons_succ]
          obtain ⟨Q2, hQ2⟩ : ∃ W, Q1.alloc (.cells #[.int .i64 0, .string ⟨#[]⟩, .slice none 0 0, .slice none 0 0, .slice none 0 0, .slice none 0 0] 104) = W := ⟨_, rfl⟩
          rw [hQ2] at hHeld ⊢
          have bQ2 : Below Q1.heap.size Q1 Q2 := by rw [← hQ2]; exact boxed Q1 _
          have sQ2 : Q2.heap.size = Q1.heap.size + 1 := by rw [← hQ2, World.size_alloc]
          replace sQ2 := Lib.hid sQ2
          have hrowQ2 := hrowQ1.keep (Kept.of_below bQ2)
          have hboxQ2 : Blk 104 Q2 Q1.heap.size [.int .i64 0, .string ⟨#[]⟩, .slice none 0 0, .slice none 0 0, .slice none 0 0, .slice none 0 0] := by rw [← hQ2]; exact Blk.new Q1 _ _
          have hexQ2 := ExC.keep hexQ1 (Kept.of_below bQ2)
          have hb5Q2 : Below w5.heap.size w5 Q2 := chain hb5Q1 bQ2
          refine wpAnyH_ready (rs := [6]) (by kernel_rfl) (by simp) ?_
          refine AllReadyH.cons rfl (fun K hK => ?_) AllReadyH.nil
          obtain ⟨u0, u1, u2, u3, u4, u5, e0, e1, e2, e3, e4, e5⟩ := st_box hboxQ2
          go_simp
          refine Shut.out hK _ _ (Blk.other6 (by assumption) (by have := hWb.out.size; have := sQ1.out; have := sQ2.out; omega) _ _ _ _ _ _) (fun hHeld => ?_)
          refine wpAnyH_done (by kernel_rfl) ?_ _
          have hbase : base ≤ Q1.heap.size := by have := hWb.out.size; have := sQ1.out; have := sQ2.out; omega
          have hwU : w.heap.size ≤ Q1.heap.size := by have := hWb.out.size; have := sQ1.out; have := sQ2.out; omega
          have hn4 : n1 ≤ Q1.heap.size := by have := hWb.out.size; have := sQ1.out; have := sQ2.out; omega
          have j1 := Blk.set6 hboxQ2 (.int .i64 3) (.string ⟨#[]⟩) (.slice none 0 0) (.slice (some ⟨w5.heap.size, 0, none⟩) 1 1) (.slice A5 L5 cap5) (.slice none 0 0)
          have j2 := Blk.other6 (i4.out.below hb5Q2) (show g ≠ Q1.heap.size by have := hWb.out.size; have := sQ1.out; have := sQ2.out; omega) (.int .i64 3) (.string ⟨#[]⟩) (.slice none 0 0) (.slice (some ⟨w5.heap.size, 0, none⟩) 1 1) (.slice A5 L5 cap5) (.slice none 0 0)
          have j3 := RdS.set6 (i2.out.below hb5Q2) hbase (.int .i64 3) (.string ⟨#[]⟩) (.slice none 0 0) (.slice (some ⟨w5.heap.size, 0, none⟩) 1 1) (.slice A5 L5 cap5) (.slice none 0 0)
          have j4 := Gr.set6 (Gr.below i3.out hb5Q2) hwU (.int .i64 3) (.string ⟨#[]⟩) (.slice none 0 0) (.slice (some ⟨w5.heap.size, 0, none⟩) 1 1) (.slice A5 L5 cap5) (.slice none 0 0)
          have hrF := Exs.mono (G := fun b => n1 ≤ b ∧ b ≠ Q1.heap.size) (hrowQ2) fun b hb h => by have := hWb.out.size; have := sQ1.out; have := sQ2.out; rcases h with h | h <;> constructor <;> omega
          have hsF := Sts.mono (G := fun b => n1 ≤ b ∧ b ≠ Q1.heap.size) (i8.out.keep (Kept.of_below hb5Q2)) fun b hb h => by have := hWb.out.size; have := sQ1.out; have := sQ2.out; constructor <;> omega
          have kF := Kept.set6 (F := fun b => n1 ≤ b ∧ b ≠ Q1.heap.size) Q2 (g := Q1.heap.size) (fun h => h.2 rfl) (.int .i64 3) (.string ⟨#[]⟩) (.slice none 0 0) (.slice (some ⟨w5.heap.size, 0, none⟩) 1 1) (.slice A5 L5 cap5) (.slice none 0 0)
          have j5 := hrF.keep kF
          have j6 := hsF.keep kF
          have hlt := j1.lt
          clear hHeld hK hrF hsF kF
          go_wp2_with fail
          go_meet
          case rel => exact ⟨_, la, k5, _, A5, L5, cap5, rfl, i1, Lib.hid j3, Lib.hid j4, Lib.hid j2, Lib.hid j1, Lib.hid j5, i7, Lib.hid j6, hn4, hlt⟩
      · go_simp
        refine Shut.out hK _ _ (by exact Blk.below (by assumption) (boxed w5 _)) (fun hHeld => ?_)
        try simp only [Act.put, List.setIfInBounds_toArray, List.set_cons_zero, List.set_cons_succ]
        obtain ⟨Q1, hQ1⟩ : ∃ W, w5.alloc (.cells #[.int .i64 0, .string ⟨#[]⟩, .slice none 0 0, .slice none 0 0, .slice none 0 0, .slice none 0 0] 104) = W := ⟨_, rfl⟩
        rw [hQ1] at hHeld ⊢
        have bQ1 : Below w5.heap.size w5 Q1 := by rw [← hQ1]; exact boxed w5 _
        have sQ1 : Q1.heap.size = w5.heap.size + 1 := by rw [← hQ1, World.size_alloc]
        replace sQ1 := Lib.hid sQ1
        have hboxQ1 : Blk 104 Q1 w5.heap.size [.int .i64 0, .string ⟨#[]⟩, .slice none 0 0, .slice none 0 0, .slice none 0 0, .slice none 0 0] := by rw [← hQ1]; exact Blk.new w5 _ _
        have hexQ1 := ExC.keep i6.out (Kept.of_below bQ1)
        have hb5Q1 : Below w5.heap.size w5 Q1 := bQ1
        refine wpAnyH_ready (rs := [1]) (by kernel_rfl) (by simp) ?_
        refine AllReadyH.cons rfl (fun K hK => ?_) AllReadyH.nil
        · go_simp
          refine Shut.out hK _ _ (by exact Blk.below (by assumption) (boxed Q1 _)) (fun hHeld => ?_)
          try simp only [Act.put, List.setIfInBounds_toArray, List.set_cons_zero, List.set_cons_succ]
          obtain ⟨Q2, hQ2⟩ : ∃ W, Q1.alloc (.cells #[.string S, .int .u32 N, .string T, .slice A L cap] 51) = W := ⟨_, rfl⟩
          rw [hQ2] at hHeld ⊢
          have bQ2 : Below Q1.heap.size Q1 Q2 := by rw [← hQ2]; exact boxed Q1 _
          have sQ2 : Q2.heap.size = Q1.heap.size + 1 := by rw [← hQ2, World.size_alloc]
          replace sQ2 := Lib.hid sQ2
          have hboxQ2 := hboxQ1.below bQ2
          have hrowQ2 : Exs Q2 (fun b => (n1 ≤ b ∧ b < W3.heap.size) ∨ b = Q1.heap.size) [x] (some ⟨Q1.heap.size, 0, none⟩) 1 := by rw [← hQ2]; exact exs_oneF (ExC.mono hexQ1 fun b _ h => Or.inl h) (Or.inr rfl)
          have hexQ2 := ExC.keep hexQ1 (Kept.of_below bQ2)
          have hb5Q2 : Below w5.heap.size w5 Q2 := chain hb5Q1 bQ2
          refine wpAnyH_take (i := 4) (v := .agg #[.int .i64 3, .string ⟨#[]⟩, .slice none 0 0, .slice (some ⟨Q1.heap.size, 0, none⟩) 1 1, .slice A5 L5 cap5, .slice none 0 0]) rfl (by kernel_rfl) (by kernel_rfl) (by kernel_rfl) (fun _ _ _ h => h) (Or.inl ⟨by rfl, ?ht4⟩) (by assumption) ?rt4
          case ht4 =>
            intro W hW
            go_simp
          try simp only [Act.put, List.setIfInBounds_toArray, List.set_cons_zero, List.set_cons_succ]
          refine wpAnyH_ready (rs := [6]) (by kernel_rfl) (by simp) ?_
          refine AllReadyH.cons rfl (fun K hK => ?_) AllReadyH.nil
          obtain ⟨u0, u1, u2, u3, u4, u5, e0, e1, e2, e3, e4, e5⟩ := st_box hboxQ2
          go_simp
          refine Shut.out hK _ _ (Blk.other6 (by assumption) (by have := hWb.out.size; have := sQ1.out; have := sQ2.out; omega) _ _ _ _ _ _) (fun hHeld => ?_)
          refine wpAnyH_done (by kernel_rfl) ?_ _
          have hbase : base ≤ w5.heap.size := by have := hWb.out.size; have := sQ1.out; have := sQ2.out; omega
          have hwU : w.heap.size ≤ w5.heap.size := by have := hWb.out.size; have := sQ1.out; have := sQ2.out; omega
          have hn4 : n1 ≤ w5.heap.size := by have := hWb.out.size; have := sQ1.out; have := sQ2.out; omega
          have j1 := Blk.set6 hboxQ2 (.int .i64 3) (.string ⟨#[]⟩) (.slice none 0 0) (.slice (some ⟨Q1.heap.size, 0, none⟩) 1 1) (.slice A5 L5 cap5) (.slice none 0 0)
          have j2 := Blk.other6 (i4.out.below hb5Q2) (show g ≠ w5.heap.size by have := hWb.out.size; have := sQ1.out; have := sQ2.out; omega) (.int .i64 3) (.string ⟨#[]⟩) (.slice none 0 0) (.slice (some ⟨Q1.heap.size, 0, none⟩) 1 1) (.slice A5 L5 cap5) (.slice none 0 0)
          have j3 := RdS.set6 (i2.out.below hb5Q2) hbase (.int .i64 3) (.string ⟨#[]⟩) (.slice none 0 0) (.slice (some ⟨Q1.heap.size, 0, none⟩) 1 1) (.slice A5 L5 cap5) (.slice none 0 0)
          have j4 := Gr.set6 (Gr.below i3.out hb5Q2) hwU (.int .i64 3) (.string ⟨#[]⟩) (.slice none 0 0) (.slice (some ⟨Q1.heap.size, 0, none⟩) 1 1) (.slice A5 L5 cap5) (.slice none 0 0)
          have hrF := Exs.mono (G := fun b => n1 ≤ b ∧ b ≠ w5.heap.size) (hrowQ2) fun b hb h => by have := hWb.out.size; have := sQ1.out; have := sQ2.out; rcases h with h | h <;> constructor <;> omega
          have hsF := Sts.mono (G := fun b => n1 ≤ b ∧ b ≠ w5.heap.size) (i8.out.keep (Kept.of_below hb5Q2)) fun b hb h => by have := hWb.out.size; have := sQ1.out; have := sQ2.out; constructor <;> omega
          have kF := Kept.set6 (F := fun b => n1 ≤ b ∧ b ≠ w5.heap.size) Q2 (g := w5.heap.size) (fun h => h.2 rfl) (.int .i64 3) (.string ⟨#[]⟩) (.slice none 0 0) (.slice (some ⟨Q1.heap.size, 0, none⟩) 1 1) (.slice A5 L5 cap5) (.slice none 0 0)
          have j5 := hrF.keep kF
          have j6 := hsF.keep kF
          have hlt := j1.lt
          clear hHeld hK hrF hsF kF
          go_wp2_with fail
          go_meet
          case rel => exact ⟨_, la, k5, _, A5, L5, cap5, rfl, i1, Lib.hid j3, Lib.hid j4, Lib.hid j2, Lib.hid j1, Lib.hid j5, i7, Lib.hid j6, hn4, hlt⟩
    · go_simp
      refine Shut.out hK _ _ (by exact Blk.below (by assumption) (boxed Wd _)) (fun hHeld => ?_)
      try simp only [Act.put, List.setIfInBounds_toArray, List.set_cons_zero, List.set_cons_succ]
      obtain ⟨P1, hP1⟩ : ∃ W, Wd.alloc (.cells #[.int .i64 0, .string ⟨#[]⟩, .slice none 0 0, .slice none 0 0, .slice none 0 0, .slice none 0 0] 104) = W := ⟨_, rfl⟩
      rw [hP1] at hHeld ⊢
      have bP1 : Below Wd.heap.size Wd P1 := by rw [← hP1]; exact boxed Wd _
      have sP1 : P1.heap.size = Wd.heap.size + 1 := by rw [← hP1, World.size_alloc]
      replace sP1 := Lib.hid sP1
      have hboxP1 : Blk 104 P1 Wd.heap.size [.int .i64 0, .string ⟨#[]⟩, .slice none 0 0, .slice none 0 0, .slice none 0 0, .slice none 0 0] := by rw [← hP1]; exact Blk.new Wd _ _
      have hexP1 := ExC.keep hC3d.out (Kept.of_below bP1)
      have hbdP1 : Below W3.heap.size W3 P1 := hWb.out.trans (bP1.mono hWb.out.size)
      refine wpAnyH_ready (rs := [1, 3]) (by kernel_rfl) (by simp) ?_
      refine AllReadyH.cons rfl (fun K hK => ?_) (AllReadyH.cons rfl (fun K hK => ?_) AllReadyH.nil)
      · go_simp
        refine Shut.out hK _ _ (by exact Blk.below (by assumption) (boxed P1 _)) (fun hHeld => ?_)
        try simp only [Act.put, List.setIfInBounds_toArray, List.set_cons_zero, List.set_cons_succ]
        obtain ⟨P2, hP2⟩ : ∃ W, P1.alloc (.cells #[.string S, .int .u32 N, .string T, .slice A L cap] 51) = W := ⟨_, rfl⟩
        rw [hP2] at hHeld ⊢
        have bP2 : Below P1.heap.size P1 P2 := by rw [← hP2]; exact boxed P1 _
        have sP2 : P2.heap.size = P1.heap.size + 1 := by rw [← hP2, World.size_alloc]
        replace sP2 := Lib.hid sP2
        have hboxP2 := hboxP1.below bP2
        have hrowP2 : Exs P2 (fun b => (n1 ≤ b ∧ b < W3.heap.size) ∨ b = P1.heap.size) [x] (some ⟨P1.heap.size, 0, none⟩) 1 := by rw [← hP2]; exact exs_oneF (ExC.mono hexP1 fun b _ h => Or.inl h) (Or.inr rfl)
        have hexP2 := ExC.keep hexP1 (Kept.of_below bP2)
        have hbdP2 : Below W3.heap.size W3 P2 := hbdP1.trans (bP2.mono hbdP1.size)
        refine wpAnyH_ready (rs := [3]) (by kernel_rfl) (by simp) ?_
        refine AllReadyH.cons rfl (fun K hK => ?_) AllReadyH.nil
        · go_simp
          refine (cS.out P2 hbdP2).mono ?_
          rintro e w5 (⟨la, k5, A5, L5, cap5, rfl, i1, i2, i3, i4, i5, i6, i7, i8, i9⟩ | ⟨c, ts, rfl, i1⟩)
          case inr => exact ⟨rfl, i1.out⟩
          have hdz := hbdP2.size
          have hsz5 := i9.out.size
          refine Shut.out hK _ _ i5.out (fun hHeld => ?_)
          try simp only [Act.put, List.setIfInBounds_toArray, List.set_cons_zero, List.set_cons_succ]
          have hrow5 := hrowP2.keep (Gr.kept i9.out fun b h => by have := hWb.out.size; have := sP1.out; have := sP2.out; rcases h with h | h <;> omega)
          have hbox5 := Gr.blk i9.out hboxP2 (by have := hWb.out.size; have := sP1.out; have := sP2.out; omega)
          refine wpAnyH_take (i := 4) (v := .agg #[.int .i64 3, .string ⟨#[]⟩, .slice none 0 0, .slice (some ⟨P1.heap.size, 0, none⟩) 1 1, .slice A5 L5 cap5, .slice none 0 0]) rfl (by kernel_rfl) (by kernel_rfl) (by kernel_rfl) (fun _ _ _ h => h) (Or.inl ⟨by rfl, ?ht5⟩) (by assumption) ?rt5
          case ht5 =>
            intro W hW
            go_simp
          try simp only [Act.put, List.setIfInBounds_toArray, List.set_cons_zero, List.set_cons_succ]
          refine wpAnyH_ready (rs := [6]) (by kernel_rfl) (by simp) ?_
          refine AllReadyH.cons rfl (fun K hK => ?_) AllReadyH.nil
          obtain ⟨u0, u1, u2, u3, u4, u5, e0, e1, e2, e3, e4, e5⟩ := st_box hbox5
          go_simp
          refine Shut.out hK _ _ (Blk.other6 (by assumption) (by have := hWb.out.size; have := sP1.out; have := sP2.out; omega) _ _ _ _ _ _) (fun hHeld => ?_)
          refine wpAnyH_done (by kernel_rfl) ?_ _
          have hbase : base ≤ Wd.heap.size := by have := hWb.out.size; have := sP1.out; have := sP2.out; omega
          have hwU : w.heap.size ≤ Wd.heap.size := by have := hWb.out.size; have := sP1.out; have := sP2.out; omega
          have hn4 : n1 ≤ Wd.heap.size := by have := hWb.out.size; have := sP1.out; have := sP2.out; omega
          have j1 := Blk.set6 hbox5 (.int .i64 3) (.string ⟨#[]⟩) (.slice none 0 0) (.slice (some ⟨P1.heap.size, 0, none⟩) 1 1) (.slice A5 L5 cap5) (.slice none 0 0)
          have j2 := Blk.other6 (i4.out) (show g ≠ Wd.heap.size by have := hWb.out.size; have := sP1.out; have := sP2.out; omega) (.int .i64 3) (.string ⟨#[]⟩) (.slice none 0 0) (.slice (some ⟨P1.heap.size, 0, none⟩) 1 1) (.slice A5 L5 cap5) (.slice none 0 0)
          have j3 := RdS.set6 (i2.out) hbase (.int .i64 3) (.string ⟨#[]⟩) (.slice none 0 0) (.slice (some ⟨P1.heap.size, 0, none⟩) 1 1) (.slice A5 L5 cap5) (.slice none 0 0)
          have j4 := Gr.set6 (i3.out) hwU (.int .i64 3) (.string ⟨#[]⟩) (.slice none 0 0) (.slice (some ⟨P1.heap.size, 0, none⟩) 1 1) (.slice A5 L5 cap5) (.slice none 0 0)
          have hrF := Exs.mono (G := fun b => n1 ≤ b ∧ b ≠ Wd.heap.size) (hrow5) fun b hb h => by have := hWb.out.size; have := sP1.out; have := sP2.out; rcases h with h | h <;> constructor <;> omega
          have hsF := Sts.mono (G := fun b => n1 ≤ b ∧ b ≠ Wd.heap.size) (i8.out) fun b hb h => by have := hWb.out.size; have := sP1.out; have := sP2.out; constructor <;> omega
          have kF := Kept.set6 (F := fun b => n1 ≤ b ∧ b ≠ Wd.heap.size) w5 (g := Wd.heap.size) (fun h => h.2 rfl) (.int .i64 3) (.string ⟨#[]⟩) (.slice none 0 0) (.slice (some ⟨P1.heap.size, 0, none⟩) 1 1) (.slice A5 L5 cap5) (.slice none 0 0)
          have j5 := hrF.keep kF
          have j6 := hsF.keep kF
          have hlt := j1.lt
          clear hHeld hK hrF hsF kF
          go_wp2_with fail
          go_meet
          case rel => exact ⟨_, la, k5, _, A5, L5, cap5, rfl, i1, Lib.hid j3, Lib.hid j4, Lib.hid j2, Lib.hid j1, Lib.hid j5, i7, Lib.hid j6, hn4, hlt⟩
      · go_simp
        refine (cS.out P1 hbdP1).mono ?_
        rintro e w5 (⟨la, k5, A5, L5, cap5, rfl, i1, i2, i3, i4, i5, i6, i7, i8, i9⟩ | ⟨c, ts, rfl, i1⟩)
        case inr => exact ⟨rfl, i1.out⟩
        have hdz := hbdP1.size
        have hsz5 := i9.out.size
        refine Shut.out hK _ _ i5.out (fun hHeld => ?_)
        try simp only [Act.put, List.setIfInBounds_toArray, List.set_cons_zero, List.set_cons_succ]
        have hbox5 := Gr.blk i9.out hboxP1 (by have := hWb.out.size; have := sP1.out; omega)
        refine wpAnyH_ready (rs := [1]) (by kernel_rfl) (by simp) ?_
        refine AllReadyH.cons rfl (fun K hK => ?_) AllReadyH.nil
        · go_simp
          refine Shut.out hK _ _ (by exact Blk.below (by assumption) (boxed w5 _)) (fun hHeld => ?_)
          try simp only [Act.put, List.setIfInBounds_toArray, List.set_cons_zero, List.set_cons_succ]
          obtain ⟨Q1, hQ1⟩ : ∃ W, w5.alloc (.cells #[.string S, .int .u32 N, .string T, .slice A L cap] 51) = W := ⟨_, rfl⟩
          rw [hQ1] at hHeld ⊢
          have bQ1 : Below w5.heap.size w5 Q1 := by rw [← hQ1]; exact boxed w5 _
          have sQ1 : Q1.heap.size = w5.heap.size + 1 := by rw [← hQ1, World.size_alloc]
          replace sQ1 := Lib.hid sQ1
          have hboxQ1 := hbox5.below bQ1
          have hrowQ1 : Exs Q1 (fun b => (n1 ≤ b ∧ b < W3.heap.size) ∨ b = w5.heap.size) [x] (some ⟨w5.heap.size, 0, none⟩) 1 := by rw [← hQ1]; exact exs_oneF (ExC.mono i6.out fun b _ h => Or.inl h) (Or.inr rfl)
          have hexQ1 := ExC.keep i6.out (Kept.of_below bQ1)
          have hb5Q1 : Below w5.heap.size w5 Q1 := bQ1
          refine wpAnyH_take (i := 4) (v := .agg #[.int .i64 3, .string ⟨#[]⟩, .slice none 0 0, .slice (some ⟨w5.heap.size, 0, none⟩) 1 1, .slice A5 L5 cap5, .slice none 0 0]) rfl (by kernel_rfl) (by kernel_rfl) (by kernel_rfl) (fun _ _ _ h => h) (Or.inl ⟨by rfl, ?ht6⟩) (by assumption) ?rt6
          case ht6 =>
            intro W hW
            go_simp
          try simp only [Act.put, List.setIfInBounds_toArray, List.set_cons_zero, List.set_cons_succ]
          refine wpAnyH_ready (rs := [6]) (by kernel_rfl) (by simp) ?_
          refine AllReadyH.cons rfl (fun K hK => ?_) AllReadyH.nil
          obtain ⟨u0, u1, u2, u3, u4, u5, e0, e1, e2, e3, e4, e5⟩ := st_box hboxQ1
          go_simp
          refine Shut.out hK _ _ (Blk.other6 (by assumption) (by have := hWb.out.size; have := sP1.out; have := sQ1.out; omega) _ _ _ _ _ _) (fun hHeld => ?_)
          refine wpAnyH_done (by kernel_rfl) ?_ _
          have hbase : base ≤ Wd.heap.size := by have := hWb.out.size; have := sP1.out; have := sQ1.out; omega
          have hwU : w.heap.size ≤ Wd.heap.size := by have := hWb.out.size; have := sP1.out; have := sQ1.out; omega
          have hn4 : n1 ≤ Wd.heap.size := by have := hWb.out.size; have := sP1.out; have := sQ1.out; omega
          have j1 := Blk.set6 hboxQ1 (.int .i64 3) (.string ⟨#[]⟩) (.slice none 0 0) (.slice (some ⟨w5.heap.size, 0, none⟩) 1 1) (.slice A5 L5 cap5) (.slice none 0 0)
          have j2 := Blk.other6 (i4.out.below hb5Q1) (show g ≠ Wd.heap.size by have := hWb.out.size; have := sP1.out; have := sQ1.out; omega) (.int .i64 3) (.string ⟨#[]⟩) (.slice none 0 0) (.slice (some ⟨w5.heap.size, 0, none⟩) 1 1) (.slice A5 L5 cap5) (.slice none 0 0)
          have j3 := RdS.set6 (i2.out.below hb5Q1) hbase (.int .i64 3) (.string ⟨#[]⟩) (.slice none 0 0) (.slice (some ⟨w5.heap.size, 0, none⟩) 1 1) (.slice A5 L5 cap5) (.slice none 0 0)
          have j4 := Gr.set6 (Gr.below i3.out hb5Q1) hwU (.int .i64 3) (.string ⟨#[]⟩) (.slice none 0 0) (.slice (some ⟨w5.heap.size, 0, none⟩) 1 1) (.slice A5 L5 cap5) (.slice none 0 0)
          have hrF := Exs.mono (G := fun b => n1 ≤ b ∧ b ≠ Wd.heap.size) (hrowQ1) fun b hb h => by have := hWb.out.size; have := sP1.out; have := sQ1.out; rcases h with h | h <;> constructor <;> omega
          have hsF := Sts.mono (G := fun b => n1 ≤ b ∧ b ≠ Wd.heap.size) (i8.out.keep (Kept.of_below hb5Q1)) fun b hb h => by have := hWb.out.size; have := sP1.out; have := sQ1.out; constructor <;> omega
          have kF := Kept.set6 (F := fun b => n1 ≤ b ∧ b ≠ Wd.heap.size) Q1 (g := Wd.heap.size) (fun h => h.2 rfl) (.int .i64 3) (.string ⟨#[]⟩) (.slice none 0 0) (.slice (some ⟨w5.heap.size, 0, none⟩) 1 1) (.slice A5 L5 cap5) (.slice none 0 0)
          have j5 := hrF.keep kF
          have j6 := hsF.keep kF
          have hlt := j1.lt
          clear hHeld hK hrF hsF kF
          go_wp2_with fail
          go_meet
          case rel => exact ⟨_, la, k5, _, A5, L5, cap5, rfl, i1, Lib.hid j3, Lib.hid j4, Lib.hid j2, Lib.hid j1, Lib.hid j5, i7, Lib.hid j6, hn4, hlt⟩
  case rest =>
    obtain ⟨g4, la, k5, V, A5, L5, cap5, hp4, i1, i2, i3, i4, i5, i6, i7, i8, hn4, hlt⟩ := hcut
    subst hp4
    clear cS hC3d hWd hWb keep0 hn3 hgr3
    have cN := Lib.hid (isNext_any i2.out ks_else (S := ⟨#[101, 108, 115, 101]⟩) rfl)
    have hB4 : g4 ≠ B := by omega
    have hb4 : base ≤ g4 := by omega
    have hg4 : g ≠ g4 := by omega
    have hw4 : w.heap.size ≤ g4 := by omega
    have i1' := i1.out
    unfold elseP at i1'
    rcases hs : sg kElse (at_ l k5) with _ | _
    · rw [hs] at cN
      rw [hs, if_neg Bool.false_ne_true] at i1'
      injection i1' with i1'
      subst i1'
      clear hs i1
      go_wp2_with fail
      refine (cN.out).mono ?_
      rintro e w6 ⟨rfl, hb6⟩
      have hbx := i4.out.below hb6
      obtain ⟨u0, u1, u2, u3, uu4, u5, e0, e1, e2, e3, e4, e5⟩ := st_box hbx
      obtain ⟨x0, x1, x2, x3, x4, x5, _, _, _, _, _, _⟩ := st_box (i5.out.below hb6)
      have hCx : StC w6 (fun b => n1 ≤ b ∧ b ≠ g4) (.ifs x la []) [.int .i64 3, .string ⟨#[]⟩, .slice none 0 0, .slice (some V) 1 1, .slice A5 L5 cap5, .slice none 0 0] := by
        have := StC.of (s := .ifs x la []) (I := none) (E := none) (ci := 0) (ce := 0) (Exs.nil w6 _) (i6.out.keep (Kept.of_below hb6)) (i8.out.keep (Kept.of_below hb6)) (Sts.nil w6 _)
        unfold sCells at this
        rw [show (Sta.ifs x la []).thn.length = L5 from i7.out] at this
        exact this
      have hsx := Lib.hid (i2.out.below hb6)
      have hgx := Lib.hid (Gr.below i3.out hb6)
      replace hCx := Lib.hid hCx
      replace hbx := Lib.hid hbx
      clear i2 i3 i4 i5 i6 i7 i8 hb6 cN hBk
      go_wp2
      exact st_fin rfl (by simp) hbx.out hsx.out hbg hgg hgx.out (fun h => by have := h.1; omega) (fun b h => by have := h.1; omega) hCx.out rfl
    · rw [hs] at cN
      rw [hs, if_pos rfl] at i1'
      have cX := Lib.hid (fun W (hW : Below wc.heap.size wc W) => expect_any (i2.out.below hW) ks_else (S := ⟨#[101, 108, 115, 101]⟩) rfl)
      replace i1' := Lib.hid i1'
      clear hs i1
      go_wp2_with fail
      refine (cN.out).mono ?_
      rintro e w6 ⟨rfl, hb6⟩
      have cx := Lib.hid (cX.out w6 hb6)
      have hgr6 := Lib.hid (Gr.below i3.out hb6)
      have hbg6 := Lib.hid (i4.out.below hb6)
      have hb46 := Lib.hid (i5.out.below hb6)
      have hx6 := Lib.hid (i6.out.keep (Kept.of_below hb6))
      have hs6 := Lib.hid (i8.out.keep (Kept.of_below hb6))
      have hz6 := hb6.size
      clear i2 i3 i4 i5 i6 i8 cN cX hb6
      go_wp2_with fail
      refine (cx.out).mono ?_
      rintro e w7 (⟨a7, k7, v7, hx7, rfl, hv7, hst7, hg7⟩ | ⟨c, ts, hx7, rfl, hg7⟩)
      case inr => exact ⟨rfl, Ae.bad (bad_of i1'.out hx7) (hgr6.out.trans hg7)⟩
      unfold UnitR at hv7
      subst hv7
      obtain ⟨q8, hq8, hr8⟩ := opt_of (ok_of i1'.out hx7)
      have c8 := Lib.hid (hBk.out o k7 w7 q8 hst7 hq8)
      have hgr7 := Lib.hid (hgr6.out.trans hg7)
      have hbg7 := Lib.hid (hg7.blk hbg6.out hgB)
      have hb47 := Lib.hid (hg7.blk hb46.out hB4)
      have hx77 := Lib.hid (hx6.out.keep (Gr.kept hg7 fun b h => by have := h.1; omega))
      have hs7 := Lib.hid (hs6.out.keep (Gr.kept hg7 fun b h => by have := h.1; omega))
      have hz7 := hg7.size
      replace hr8 := Lib.hid hr8
      clear i1' hgr6 hbg6 hb46 hx6 hs6 cx hst7 hg7 hx7 hq8 hBk
      go_wp2_with fail
      refine (c8.out).mono ?_
      rintro e w8 (⟨lb, k8, v8, hx8, rfl, ⟨A8, L8, cap8, rfl, hL8, hC8⟩, hst8, hg8⟩ | ⟨c, ts, hx8, rfl, hg8⟩)
      case inr => exact ⟨rfl, Ae.bad (bad_of hr8.out hx8) (hgr7.out.trans hg8)⟩
      have hr9 : r = .ok (.ifs x la lb) (at_ l k8) := by
        have := ok_of hr8.out hx8
        injection this with this
        exact this.symm
      subst hr9
      have hb48 := hg8.blk hb47.out hB4
      have hbg8 := hg8.blk hbg7.out hgB
      obtain ⟨y0, y1, y2, y3, y4, y5, f0, f1, f2, f3, f4, f5⟩ := st_box hb48
      obtain ⟨W9, hW9⟩ : ∃ W, w8.setCell ⟨g4, 5, none⟩ (.slice A8 L8 cap8) = W := ⟨_, rfl⟩
      have hb49 : Blk 104 W9 g4 [.int .i64 3, .string ⟨#[]⟩, .slice none 0 0, .slice (some V) 1 1, .slice A5 L5 cap5, .slice A8 L8 cap8] := by rw [← hW9]; exact hb48.set 5 _
      have hbg9 := Blk.other hbg8 hg4 (i := 5) (.slice A8 L8 cap8)
      rw [hW9] at hbg9
      have hk9 : Kept (fun b => n1 ≤ b ∧ b ≠ g4) w8 W9 := by rw [← hW9]; exact Kept.set w8 (fun h => h.2 rfl) _
      have hx9 := (hx77.out.keep (Gr.kept hg8 fun b h => by have := h.1; omega)).keep hk9
      have hs9 := (hs7.out.keep (Gr.kept hg8 fun b h => by have := h.1; omega)).keep hk9
      have hC9 := (hC8.mono (G := fun b => n1 ≤ b ∧ b ≠ g4) fun b _ h => by constructor <;> omega).keep hk9
      have hCx : StC W9 (fun b => n1 ≤ b ∧ b ≠ g4) (.ifs x la lb) [.int .i64 3, .string ⟨#[]⟩, .slice none 0 0, .slice (some V) 1 1, .slice A5 L5 cap5, .slice A8 L8 cap8] := by
        have := StC.of (s := .ifs x la lb) (I := none) (ci := 0) (Exs.nil W9 _) hx9 hs9 hC9
        unfold sCells at this
        rw [show (Sta.ifs x la lb).thn.length = L5 from i7.out, show (Sta.ifs x la lb).els.length = L8 from hL8] at this
        exact this
      have hsx : RdS base B l k8 o W9 := by rw [← hW9]; exact hst8.set hb4 5 _
      have hgx : Gr B w W9 := by rw [← hW9]; exact Gr.set (hgr7.out.trans hg8) hw4 _
      obtain ⟨x0, x1, x2, x3, x4, x5, _, _, _, _, _, _⟩ := st_box hb49
      obtain ⟨u0, u1, u2, u3, uu4, u5, e0, e1, e2, e3, e4, e5⟩ := st_box hbg9
      replace hsx := Lib.hid hsx
      replace hgx := Lib.hid hgx
      replace hCx := Lib.hid hCx
      replace hbg9 := Lib.hid hbg9
      clear hgr7 hbg7 hb47 hx77 hs7 hg8 hr8 hx8 hst8 hC8 hb48 hbg8 hb49 hk9 hx9 hs9 hC9 c8 i7 hL8
      go_wp2
      exact st_fin rfl (by simp) hbg9.out hsx.out hbg hgg hgx.out (fun h => by have := h.1; omega) (fun b h => by have := h.1; omega) hCx.out rfl
end
end Go.Proofs.YtpbcncfbfbghcaaGreatDoor.L20
namespace Go.Proofs.YtpbcncfbfbghcaaGreatDoor.L20
set_option maxRecDepth 100000
open Go.RowKit Mem L19
set_option linter.unusedVariables false
set_option linter.unusedSimpArgs false

def whiP (n o : Nat) (ts : List Tk) : Option (Rs Sta) := bnd (some (want kWhile ts)) fun _ ts => bnd (expr n 1 o ts) fun x ts => bnd (L20.block n o ts) fun a ts => some (.ok (.whl x a) ts)
def retP (n o : Nat) (ts : List Tk) : Option (Rs Sta) := bnd (some (want kReturn ts)) fun _ ts => bnd (expr n 1 o ts) fun x ts => simpP (.ret x) ts
def halP (ts : List Tk) : Option (Rs Sta) := bnd (some (want kHalt ts)) fun _ ts => simpP .hlt ts
def defP (n o : Nat) (ts : List Tk) : Option (Rs Sta) := bnd (some (name ts)) fun s ts => bnd (actP n o s ts) fun x ts => simpP x ts
theorem want_yes {s : Str} {ts : List Tk} (h : sg s ts = true) : want s ts = .ok () ts.tail := by unfold want; rw [h]; rfl
theorem bnd_assoc {α β γ : Type} (x : Option (Rs α)) (f : α → List Tk → Option (Rs β)) (g : β → List Tk → Option (Rs γ)) : bnd (bnd x f) g = bnd x (fun a ts => bnd (f a ts) g) := by
  cases x with
  | none => rfl
  | some v => cases v <;> rfl
theorem bnd_okk {α β : Type} (a : α) (ts : List Tk) (f : α → List Tk → Option (Rs β)) : bnd (some (.ok a ts)) f = f a ts := rfl
theorem stm_eq {n o : Nat} {ts : List Tk} {r : Rs Sta} (h : stm (n + 1) o ts = some r) : (if sg kIf ts then choP n o ts else if sg kWhile ts then whiP n o ts else if sg kReturn ts then retP n o ts else if sg kHalt ts then halP ts else defP n o ts) = some r := by
  rw [stm] at h
  rcases h1 : sg kIf ts with _ | _
  · rw [h1, if_neg Bool.false_ne_true] at h
    rw [if_neg Bool.false_ne_true]
    rcases h2 : sg kWhile ts with _ | _
    · rw [h2, if_neg Bool.false_ne_true] at h
      rw [if_neg Bool.false_ne_true]
      rcases h3 : sg kReturn ts with _ | _
      · rw [h3, if_neg Bool.false_ne_true] at h
        rw [if_neg Bool.false_ne_true]
        rcases h4 : sg kHalt ts with _ | _
        · rw [h4, if_neg Bool.false_ne_true] at h
          rw [if_neg Bool.false_ne_true]
          unfold defP
          cases e : name ts with
          | bad c us => rw [e] at h; exact h
          | ok s us =>
            rw [e] at h
            show bnd (actP n o s us) _ = some r
            replace h : (if sg [40] us then bnd (args n o us) fun l ts => bnd (some (want [59] ts)) fun _ ts => some (.ok (.cal s l) ts) else if sg [91] us then bnd (some (enter [91] o us)) fun _ ts => bnd (expr n 1 (o + 1) ts) fun i ts => bnd (some (want [93] ts)) fun _ ts => bnd (some (want [61] ts)) fun _ ts => bnd (expr n 1 o ts) fun x ts => bnd (some (want [59] ts)) fun _ ts => some (.ok (.sto s i x) ts) else bnd (some (want [61] us)) fun _ ts => bnd (expr n 1 o ts) fun x ts => bnd (some (want [59] ts)) fun _ ts => some (.ok (.asg s x) ts)) = some r := h
            unfold actP
            rcases h40 : sg [40] us with _ | _
            · rw [h40, if_neg Bool.false_ne_true] at h
              rw [if_neg Bool.false_ne_true]
              rcases h91 : sg [91] us with _ | _
              · rw [h91, if_neg Bool.false_ne_true] at h
                rw [if_neg Bool.false_ne_true, ← h]
                unfold assnP
                rw [bnd_assoc, bnd_assoc]
                rfl
              · rw [h91, if_pos rfl] at h
                rw [if_pos rfl, ← h]
                unfold index assnP
                simp only [bnd_assoc, bnd_okk]
                rfl
            · rw [h40, if_pos rfl] at h
              rw [if_pos rfl]
              cases n with
              | zero => rw [args] at h; cases h
              | succ n =>
                rw [args_eq] at h
                rcases (show callP n o us = callP (n + 1) o us ∨ callP n o us = none from by
                  cases e2 : callP n o us with
                  | none => exact .inr rfl
                  | some v =>
                    refine .inl ?_
                    rw [← args_eq] at e2 ⊢
                    exact (mA o us (n + 1) v e2).symm) with hm | hm
                · rw [← hm, bnd_assoc]; exact h
                · rw [hm] at h; cases h
        · rw [h4, if_pos rfl] at h
          rw [if_pos rfl]
          unfold halP
          rw [want_yes h4]
          exact h
      · rw [h3, if_pos rfl] at h
        rw [if_pos rfl]
        unfold retP
        rw [want_yes h3]
        exact h
    · rw [h2, if_pos rfl] at h
      rw [if_pos rfl]
      unfold whiP
      rw [want_yes h2]
      exact h
  · rw [h1, if_pos rfl] at h
    rw [if_pos rfl]
    unfold choP
    rw [want_yes h1]
    have he : ∀ x a ts, elseP n o x a ts = if sg kElse ts = true then bnd (L20.block n o ts.tail) fun b ts => some (Rs.ok (Sta.ifs x a b) ts) else some (Rs.ok (Sta.ifs x a []) ts) := fun x a ts => by
      unfold elseP
      rcases h9 : sg kElse ts with _ | _
      · rfl
      · rw [want_yes h9]; rfl
    rw [bnd_okk]
    simp only [he]
    exact h
section
variable {base B k o : Nat} {l : List L19.Tok} {w : World}
set_option maxHeartbeats 8000000 in
theorem statement_any {n : Nat} (hBk : BlkC base B l n) (h : RdS base B l k o w) {r : Rs Sta} (hr : stm (n + 1) o (at_ l k) = some r) :
    Calls Tryz.prog 129 #[.pointer (some ⟨B, 0, none⟩)] w (Ae base B l o w (StR fun b => w.heap.size ≤ b) r) := by
  replace hr := stm_eq hr
  obtain ⟨W0, g, hW0, hg0, hb0, hst0, hgr0, hbg, hgl, hgB⟩ := start_box h szero 104
  have c1 := Lib.hid (peek_any hst0)
  have test : ∀ (s : Str) (S : ByteArray) (Y : ByteArray), Ks s → strV s = .string S → strV (tokAt l k).2.1 = .string Y → (Y.toList == S.toList) = sg s (at_ l k) := fun s S Y h1 h2 h3 => by
    have q := sg_text (hst0.ok.goodAt k) h1
    rw [tokAt_tx] at q
    exact (str_beq h3 h2).trans q.symm
  have tI := fun (Y : ByteArray) hY => test kIf ⟨#[105, 102]⟩ Y ks_if rfl hY
  have tW := fun (Y : ByteArray) hY => test kWhile ⟨#[119, 104, 105, 108, 101]⟩ Y ks_while rfl hY
  have tR := fun (Y : ByteArray) hY => test kReturn ⟨#[114, 101, 116, 117, 114, 110]⟩ Y ks_return rfl hY
  have tH := fun (Y : ByteArray) hY => test kHalt ⟨#[104, 97, 108, 116]⟩ Y ks_halt rfl hY
  rw [show (⟨#[105, 102]⟩ : ByteArray).toList = [105, 102] by simp [ByteArray.toList_eq]] at tI
  rw [show (⟨#[119, 104, 105, 108, 101]⟩ : ByteArray).toList = [119, 104, 105, 108, 101] by simp [ByteArray.toList_eq]] at tW
  rw [show (⟨#[114, 101, 116, 117, 114, 110]⟩ : ByteArray).toList = [114, 101, 116, 117, 114, 110] by simp [ByteArray.toList_eq]] at tR
  rw [show (⟨#[104, 97, 108, 116]⟩ : ByteArray).toList = [104, 97, 108, 116] by simp [ByteArray.toList_eq]] at tH
  have hf1 := fld1
  unfold szero at hW0 hb0
  have hlow := h.low
  have hgg : w.heap.size ≤ g := by omega
  have hok := h.ok
  replace hr := Lib.hid hr
  replace hb0 := Lib.hid hb0
  replace hst0 := Lib.hid hst0
  replace hgr0 := Lib.hid hgr0
  replace hBk := Lib.hid hBk
  replace hok := Lib.hid hok
  clear h test
  go_enter Tryz.func129, Tryz.ntmps129
  go_wp2_with fail
  refine (c1.out).mono ?_
  rintro e w1 ⟨K, Z, Y, rfl, hK, hZ, hY, hb1⟩
  clear hK hZ
  replace tI := tI Y hY
  replace tW := tW Y hY
  replace tR := tR Y hY
  replace tH := tH Y hY
  have hs1 := hb1.size
  have hr1 := hr.out
  have hst1 := hst0.out.below hb1
  have hgr1 := Lib.hid (Gr.below hgr0.out hb1)
  have hb01 := Lib.hid (hb0.out.below hb1)
  clear hr hY hb1 hgr0 hb0 hst0 hW0 c1
  obtain ⟨n1, hn1⟩ : ∃ n1, w1.heap.size = n1 := ⟨_, rfl⟩
  have hgn : g < n1 := by omega
  have hBn : B < n1 := by omega
  rcases hsI : sg kIf (at_ l k) with _ | _
  rotate_left
  · rw [hsI] at tI
    rw [hsI, if_pos rfl] at hr1
    have cc := Lib.hid (choice_any hBk.out hst1 hr1)
    rw [hn1] at cc
    clear hsI hr1 hst1 tW tR tH hBk
    go_wp2_with fail
    refine (cc.out).mono ?_
    rintro e w2 (⟨x, k2, v2, hx2, rfl, ⟨Kk, S, I, V, T, E, li, ci, lv, cv, lt, ct, le, ce, rfl, hC2⟩, hst2, hg2⟩ | ⟨c, ts, hx2, rfl, hg2⟩)
    case inr => exact ⟨rfl, Ae.bad hx2 (hgr1.out.trans hg2)⟩
    have hbx := hg2.blk hb01.out hgB
    obtain ⟨u0, u1, u2, u3, u4, u5, e0, e1, e2, e3, e4, e5⟩ := st_box hbx
    have hgx := Lib.hid (hgr1.out.trans hg2)
    replace hC2 := Lib.hid hC2
    replace hst2 := Lib.hid hst2
    replace hbx := Lib.hid hbx
    replace hx2 := Lib.hid hx2
    clear hg2 hgr1 hb01 cc
    go_wp2
    exact st_fin rfl (by simp) hbx.out hst2.out hbg hgg hgx.out (fun h => by have : n1 ≤ g := h; omega) (fun b h => by have : n1 ≤ b := h; omega) hC2.out hx2.out
  rw [hsI] at tI
  rw [hsI, if_neg Bool.false_ne_true] at hr1
  clear hsI
  rcases hsW : sg kWhile (at_ l k) with _ | _
  rotate_left
  · rw [hsW] at tW
    rw [hsW, if_pos rfl] at hr1
    unfold whiP at hr1
    have cE := Lib.hid (expect_any hst1 ks_while (S := ⟨#[119, 104, 105, 108, 101]⟩) rfl)
    replace hr1 := Lib.hid hr1
    clear hsW hst1 tR tH
    go_wp2_with fail
    refine (cE.out).mono ?_
    rintro e w1' (⟨a1, k1, v1, hx1, rfl, hv1, hst1, hg1⟩ | ⟨c, ts, hx1, rfl, hg1⟩)
    case inr => exact ⟨rfl, Ae.bad (bad_of hr1.out hx1) (hgr1.out.trans hg1)⟩
    unfold UnitR at hv1
    subst hv1
    obtain ⟨q2, hq2, hr2⟩ := opt_of (ok_of hr1.out hx1)
    have c2 := Lib.hid (exprC base B l n n (Nat.le_refl _) o k1 w1' q2 hst1 hq2)
    have hgr2 := Lib.hid (hgr1.out.trans hg1)
    have hb11 := Lib.hid (hg1.blk hb01.out hgB)
    have hs1' := hg1.size
    replace hr2 := Lib.hid hr2
    clear hr1 cE hx1 hst1 hg1 hgr1 hb01 hq2
    go_wp2_with fail
    refine (c2.out).mono ?_
    rintro e w2 (⟨x, k2, v2, hx2, rfl, ⟨S, T, N, A, L, cap, rfl, hC2⟩, hst2, hg2⟩ | ⟨c, ts, hx2, rfl, hg2⟩)
    case inr => exact ⟨rfl, Ae.bad (bad_of hr2.out hx2) (hgr2.out.trans hg2)⟩
    obtain ⟨q3, hq3, hr4⟩ := opt_of (ok_of hr2.out hx2)
    have hs2 := hg2.size
    obtain ⟨W3, g3, hW3, hg3, hb3, hst3, hgr3, hbg3, hgl3, hgB3⟩ := start_box hst2 [.string S, .int .u32 N, .string T, .slice A L cap] 51
    have hbl3 : Below w2.heap.size w2 W3 := by rw [← hW3]; exact boxed w2 _
    have hb03 := (hg2.blk hb11.out hgB).below hbl3
    have hgr3 := Gr.below (hgr2.out.trans hg2) hbl3
    have hC3 : ExC W3 (fun b => n1 ≤ b ∧ b < W3.heap.size) x [.string S, .int .u32 N, .string T, .slice A L cap] := (hC2.keep (Kept.of_below hbl3)).mono fun b hb h => ⟨by omega, hb⟩
    have hBk := hBk.out
    have cS : ∀ W, Below W3.heap.size W3 W → Calls Tryz.prog 156 #[.pointer (some ⟨B, 0, none⟩)] W (fun e w5 => (∃ (la : List Sta) (k5 : Nat) (A5 : Option Addr) (L5 cap5 : Nat), e = .returned (.slice A5 L5 cap5) ∧
        Hid (r = .ok (.whl x la) (at_ l k5)) ∧ Hid (RdS base B l k5 o w5) ∧ Hid (Gr B w w5) ∧ Hid (Blk 104 w5 g [.int .i64 0, .string ⟨#[]⟩, .slice none 0 0, .slice none 0 0, .slice none 0 0, .slice none 0 0]) ∧ Hid (Blk 51 w5 g3 [.string S, .int .u32 N, .string T, .slice A L cap]) ∧
        Hid (ExC w5 (fun b => n1 ≤ b ∧ b < W3.heap.size) x [.string S, .int .u32 N, .string T, .slice A L cap]) ∧ Hid (la.length = L5) ∧ Hid (Sts w5 (fun b => W.heap.size ≤ b ∧ b < w5.heap.size) la A5 cap5) ∧ Hid (Gr B W w5)) ∨ (∃ c ts, e = .panicked [fl (lnAt l ts) c] ∧ Hid (Ae base B l o w (StR fun b => w.heap.size ≤ b) r (.panicked [fl (lnAt l ts) c]) w5))) := fun W hW => by
      refine (hBk n (Nat.le_refl _) o _ W q3 (hst3.below hW) hq3).mono ?_
      rintro e w5 (⟨la, k5, v5, hx5, rfl, ⟨A5, L5, cap5, rfl, hL5, hC5⟩, hst5, hg5⟩ | ⟨c, ts, hx5, rfl, hg5⟩)
      · have hs := hW.size
        exact .inl ⟨la, k5, A5, L5, cap5, rfl, Lib.hid (by have := ok_of hr4 hx5; injection this with this; exact this.symm), Lib.hid hst5, Lib.hid ((Gr.below hgr3 hW).trans hg5), Lib.hid (hg5.blk (hb03.below hW) hgB), Lib.hid (hg5.blk (hb3.below hW) hgB3), Lib.hid ((hC3.keep (Kept.of_below hW)).keep (Gr.kept hg5 fun b h => by omega)), Lib.hid hL5, Lib.hid (hC5.mono fun b hb h => ⟨h, hb⟩), Lib.hid hg5⟩
      · exact .inr ⟨c, ts, rfl, Lib.hid (Ae.bad (bad_of hr4 hx5) ((Gr.below hgr3 hW).trans hg5))⟩
    obtain ⟨Wd, hWd⟩ : ∃ W, W3.drew = W := ⟨_, rfl⟩
    have hWb : Below W3.heap.size W3 Wd := by rw [← hWd]; exact below_drewB (Below.refl _ _)
    have keep0 : Blk 51 W3.drew g3 [.string S, .int .u32 N, .string T, .slice A L cap] := hb3
    have hC3d := hC3.keep (Kept.of_below hWb)
    have hn3 : n1 ≤ W3.heap.size := by have := hbl3.size; omega
    replace hC3d := Lib.hid hC3d
    replace hWd := Lib.hid hWd
    replace hWb := Lib.hid hWb
    replace cS := Lib.hid cS
    clear hr2 hx2 hst2 hg2 hC2 hbl3 hgr2 hb11 c2 hq3 hb03 hb3 hgr3 hC3 hr4 hst3 hBk
    go_wp2_with fail
    refine wp_region_held_drew (S := fun W => Blk 51 W g3 [.string S, .int .u32 N, .string T, .slice A L cap]) (by kernel_rfl) keep0 (fun hHeld => ?_)
    rw [hWd.out] at hHeld ⊢
    refine wpAnyH_take (i := 0) (v := .agg #[.string S, .int .u32 N, .string T, .slice A L cap]) rfl (by kernel_rfl) (by kernel_rfl) (by kernel_rfl) (fun _ _ _ h => h) (Or.inl ⟨by rfl, ?ha⟩) (by assumption) ?ra
    case ha =>
      intro W hW
      obtain ⟨z0, z1, z2, z3, _, _, _, _⟩ := ex_box hW
      go_simp
    try simp only [Act.put, List.setIfInBounds_toArray, List.set_cons_zero, List.set_cons_succ]
    refine wpAnyH_take (i := 2) (v := .pointer (some ⟨B, 0, none⟩)) rfl (by kernel_rfl) (by kernel_rfl) (by kernel_rfl) (fun _ _ _ h => h) (Or.inl ⟨by rfl, ?hb⟩) (by assumption) ?rb
    case hb =>
      intro W hW
      go_simp
    try simp only [Act.put, List.setIfInBounds_toArray, List.set_cons_zero, List.set_cons_succ]
    refine wpAnyH_ready (rs := [1, 3]) (by kernel_rfl) (by simp) ?_
    refine AllReadyH.cons rfl (fun K hK => ?_) (AllReadyH.cons rfl (fun K hK => ?_) AllReadyH.nil)
    · go_simp
      refine Shut.out hK _ _ (by exact Blk.below (by assumption) (boxed Wd _)) (fun hHeld => ?_)
      try simp only [Act.put, List.setIfInBounds_toArray, List.set_cons_zero, List.set_cons_succ]
      obtain ⟨P1, hP1⟩ : ∃ W, Wd.alloc (.cells #[.string S, .int .u32 N, .string T, .slice A L cap] 51) = W := ⟨_, rfl⟩
      rw [hP1] at hHeld ⊢
      have bP1 : Below Wd.heap.size Wd P1 := by rw [← hP1]; exact boxed Wd _
      have sP1 : P1.heap.size = Wd.heap.size + 1 := by rw [← hP1, World.size_alloc]
      replace sP1 := Lib.hid sP1
      have hrowP1 : Exs P1 (fun b => (n1 ≤ b ∧ b < W3.heap.size) ∨ b = Wd.heap.size) [x] (some ⟨Wd.heap.size, 0, none⟩) 1 := by rw [← hP1]; exact exs_oneF (ExC.mono hC3d.out fun b _ h => Or.inl h) (Or.inr rfl)
      have hexP1 := ExC.keep hC3d.out (Kept.of_below bP1)
      have hbdP1 : Below W3.heap.size W3 P1 := hWb.out.trans (bP1.mono hWb.out.size)
      refine wpAnyH_ready (rs := [3]) (by kernel_rfl) (by simp) ?_
      refine AllReadyH.cons rfl (fun K hK => ?_) AllReadyH.nil
      · go_simp
        refine (cS.out P1 hbdP1).mono ?_
        rintro e w5 (⟨la, k5, A5, L5, cap5, rfl, i1, i2, i3, i4, i5, i6, i7, i8, i9⟩ | ⟨c, ts, rfl, i1⟩)
        case inr => exact ⟨rfl, i1.out⟩
        have hdz := hbdP1.size
        have hsz5 := i9.out.size
        refine Shut.out hK _ _ i5.out (fun hHeld => ?_)
        try simp only [Act.put, List.setIfInBounds_toArray, List.set_cons_zero, List.set_cons_succ]
        have hrow5 := hrowP1.keep (Gr.kept i9.out fun b h => by have := hWb.out.size; have := sP1.out; rcases h with h | h <;> omega)
        refine wpAnyH_take (i := 4) (v := .agg #[.int .i64 4, .string ⟨#[]⟩, .slice none 0 0, .slice (some ⟨Wd.heap.size, 0, none⟩) 1 1, .slice A5 L5 cap5, .slice none 0 0]) rfl (by kernel_rfl) (by kernel_rfl) (by kernel_rfl) (fun _ _ _ h => h) (Or.inl ⟨by rfl, ?ht1⟩) (by assumption) ?rt1
        case ht1 =>
          intro W hW
          go_simp
        try simp only [Act.put, List.setIfInBounds_toArray, List.set_cons_zero, List.set_cons_succ]
        refine wpAnyH_ready (rs := [5]) (by kernel_rfl) (by simp) ?_
        refine AllReadyH.cons rfl (fun K hK => ?_) AllReadyH.nil
        have hbx := i4.out
        obtain ⟨u0, u1, u2, u3, u4, u5, e0, e1, e2, e3, e4, e5⟩ := st_box hbx
        have hrF := Exs.mono (G := fun b => n1 ≤ b) (hrow5) fun b hb h => by have := hWb.out.size; have := sP1.out; rcases h with h | h <;> omega
        have hsF := Sts.mono (G := fun b => n1 ≤ b) (i8.out) fun b hb h => by have := hWb.out.size; have := sP1.out; omega
        have hCx : StC w5 (fun b => n1 ≤ b) (.whl x la) [.int .i64 4, .string ⟨#[]⟩, .slice none 0 0, .slice (some ⟨Wd.heap.size, 0, none⟩) 1 1, .slice A5 L5 cap5, .slice none 0 0] := by
          have := StC.of (s := .whl x la) (I := none) (E := none) (ci := 0) (ce := 0) (Exs.nil w5 _) hrF hsF (Sts.nil w5 _)
          unfold sCells at this
          rw [show (Sta.whl x la).thn.length = L5 from i7.out] at this
          exact this
        have hsx := Lib.hid (i2.out)
        have hgx := Lib.hid (i3.out)
        replace hCx := Lib.hid hCx
        replace hbx := Lib.hid hbx
        have hne : g3 ≠ g := by omega
        go_simp
        refine Shut.out hK _ _ (Blk.other6 (by assumption) hne _ _ _ _ _ _) (fun hHeld => ?_)
        refine wpAnyH_done (by kernel_rfl) ?_ _
        clear hHeld hK hrF hsF
        go_wp2
        have hr5 := i1.out
        exact st_fin rfl (by simp) hbx.out hsx.out hbg hgg hgx.out (fun h => by have : n1 ≤ g := h; omega) (fun b h => by have : n1 ≤ b := h; omega) hCx.out hr5
    · go_simp
      refine (cS.out Wd hWb.out).mono ?_
      rintro e w5 (⟨la, k5, A5, L5, cap5, rfl, i1, i2, i3, i4, i5, i6, i7, i8, i9⟩ | ⟨c, ts, rfl, i1⟩)
      case inr => exact ⟨rfl, i1.out⟩
      have hdz := hWb.out.size
      have hsz5 := i9.out.size
      refine Shut.out hK _ _ i5.out (fun hHeld => ?_)
      try simp only [Act.put, List.setIfInBounds_toArray, List.set_cons_zero, List.set_cons_succ]
      refine wpAnyH_ready (rs := [1]) (by kernel_rfl) (by simp) ?_
      refine AllReadyH.cons rfl (fun K hK => ?_) AllReadyH.nil
      · go_simp
        refine Shut.out hK _ _ (by exact Blk.below (by assumption) (boxed w5 _)) (fun hHeld => ?_)
        try simp only [Act.put, List.setIfInBounds_toArray, List.set_cons_zero, List.set_cons_succ]
        obtain ⟨Q1, hQ1⟩ : ∃ W, w5.alloc (.cells #[.string S, .int .u32 N, .string T, .slice A L cap] 51) = W := ⟨_, rfl⟩
        rw [hQ1] at hHeld ⊢
        have bQ1 : Below w5.heap.size w5 Q1 := by rw [← hQ1]; exact boxed w5 _
        have sQ1 : Q1.heap.size = w5.heap.size + 1 := by rw [← hQ1, World.size_alloc]
        replace sQ1 := Lib.hid sQ1
        have hrowQ1 : Exs Q1 (fun b => (n1 ≤ b ∧ b < W3.heap.size) ∨ b = w5.heap.size) [x] (some ⟨w5.heap.size, 0, none⟩) 1 := by rw [← hQ1]; exact exs_oneF (ExC.mono i6.out fun b _ h => Or.inl h) (Or.inr rfl)
        have hexQ1 := ExC.keep i6.out (Kept.of_below bQ1)
        have hb5Q1 : Below w5.heap.size w5 Q1 := bQ1
        refine wpAnyH_take (i := 4) (v := .agg #[.int .i64 4, .string ⟨#[]⟩, .slice none 0 0, .slice (some ⟨w5.heap.size, 0, none⟩) 1 1, .slice A5 L5 cap5, .slice none 0 0]) rfl (by kernel_rfl) (by kernel_rfl) (by kernel_rfl) (fun _ _ _ h => h) (Or.inl ⟨by rfl, ?ht2⟩) (by assumption) ?rt2
        case ht2 =>
          intro W hW
          go_simp
        try simp only [Act.put, List.setIfInBounds_toArray, List.set_cons_zero, List.set_cons_succ]
        refine wpAnyH_ready (rs := [5]) (by kernel_rfl) (by simp) ?_
        refine AllReadyH.cons rfl (fun K hK => ?_) AllReadyH.nil
        have hbx := i4.out.below hb5Q1
        obtain ⟨u0, u1, u2, u3, u4, u5, e0, e1, e2, e3, e4, e5⟩ := st_box hbx
        have hrF := Exs.mono (G := fun b => n1 ≤ b) (hrowQ1) fun b hb h => by have := hWb.out.size; have := sQ1.out; rcases h with h | h <;> omega
        have hsF := Sts.mono (G := fun b => n1 ≤ b) (i8.out.keep (Kept.of_below hb5Q1)) fun b hb h => by have := hWb.out.size; have := sQ1.out; omega
        have hCx : StC Q1 (fun b => n1 ≤ b) (.whl x la) [.int .i64 4, .string ⟨#[]⟩, .slice none 0 0, .slice (some ⟨w5.heap.size, 0, none⟩) 1 1, .slice A5 L5 cap5, .slice none 0 0] := by
          have := StC.of (s := .whl x la) (I := none) (E := none) (ci := 0) (ce := 0) (Exs.nil Q1 _) hrF hsF (Sts.nil Q1 _)
          unfold sCells at this
          rw [show (Sta.whl x la).thn.length = L5 from i7.out] at this
          exact this
        have hsx := Lib.hid (i2.out.below hb5Q1)
        have hgx := Lib.hid (Gr.below i3.out hb5Q1)
        replace hCx := Lib.hid hCx
        replace hbx := Lib.hid hbx
        have hne : g3 ≠ g := by omega
        go_simp
        refine Shut.out hK _ _ (Blk.other6 (by assumption) hne _ _ _ _ _ _) (fun hHeld => ?_)
        refine wpAnyH_done (by kernel_rfl) ?_ _
        clear hHeld hK hrF hsF
        go_wp2
        have hr5 := i1.out
        exact st_fin rfl (by simp) hbx.out hsx.out hbg hgg hgx.out (fun h => by have : n1 ≤ g := h; omega) (fun b h => by have : n1 ≤ b := h; omega) hCx.out hr5
  rw [hsW] at tW
  rw [hsW, if_neg Bool.false_ne_true] at hr1
  clear hsW hBk
  rcases hsR : sg kReturn (at_ l k) with _ | _
  rotate_left
  · rw [hsR] at tR
    rw [hsR, if_pos rfl] at hr1
    unfold retP at hr1
    have cE := Lib.hid (expect_any hst1 ks_return (S := ⟨#[114, 101, 116, 117, 114, 110]⟩) rfl)
    replace hr1 := Lib.hid hr1
    clear hsR hst1 tH
    go_wp2_with fail
    refine (cE.out).mono ?_
    rintro e w1' (⟨a1, k1, v1, hx1, rfl, hv1, hst1, hg1⟩ | ⟨c, ts, hx1, rfl, hg1⟩)
    case inr => exact ⟨rfl, Ae.bad (bad_of hr1.out hx1) (hgr1.out.trans hg1)⟩
    unfold UnitR at hv1
    subst hv1
    obtain ⟨q2, hq2, hr2⟩ := opt_of (ok_of hr1.out hx1)
    have c2 := Lib.hid (exprC base B l n n (Nat.le_refl _) o k1 w1' q2 hst1 hq2)
    have hgr2 := Lib.hid (hgr1.out.trans hg1)
    have hb11 := Lib.hid (hg1.blk hb01.out hgB)
    have hs1' := hg1.size
    replace hr2 := Lib.hid hr2
    clear hr1 cE hx1 hst1 hg1 hgr1 hb01 hq2
    go_wp2_with fail
    refine (c2.out).mono ?_
    rintro e w2 (⟨x, k2, v2, hx2, rfl, ⟨S, T, N, A, L, cap, rfl, hC2⟩, hst2, hg2⟩ | ⟨c, ts, hx2, rfl, hg2⟩)
    case inr => exact ⟨rfl, Ae.bad (bad_of hr2.out hx2) (hgr2.out.trans hg2)⟩
    have hr3 := ok_of hr2.out hx2
    have hs2 := hg2.size
    obtain ⟨W3, hW3⟩ : ∃ W, w2.alloc (.cells #[.string S, .int .u32 N, .string T, .slice A L cap] 51) = W := ⟨_, rfl⟩
    have hbl : Below w2.heap.size w2 W3 := by rw [← hW3]; exact boxed w2 _
    have hEx : Exs W3 (fun b => w1'.heap.size ≤ b) [x] (some ⟨w2.heap.size, 0, none⟩) 1 := by rw [← hW3]; exact exs_one hC2 hs2
    have hCx := st_plain (s := .ret x) (Exs.nil W3 _) hEx rfl rfl (K := 5) rfl (S := ⟨#[]⟩) rfl (li := 0) rfl (lv := 1) rfl
    have cS := Lib.hid (simple_any (hst2.below hbl) (F := fun b => w1'.heap.size ≤ b) (fun b h => by have : w1'.heap.size ≤ b := h; omega) hCx hr3)
    have hgr3 := Lib.hid (Gr.below (hgr2.out.trans hg2) hbl)
    have hb13 := Lib.hid ((hg2.blk hb11.out hgB).below hbl)
    clear hr2 hr3 hx2 hst2 hg2 hC2 hEx hCx hbl hgr2 hb11 c2
    go_wp2_with fail
    refine (cS.out).mono ?_
    rintro e w4 (⟨y, k4, v4, hx4, rfl, ⟨Kk, S', I, V, T', E, li, ci, lv, cv, lt, ct, le, ce, rfl, hC4⟩, hst4, hg4⟩ | ⟨c, ts, hx4, rfl, hg4⟩)
    case inr => exact ⟨rfl, Ae.bad hx4 (hgr3.out.trans hg4)⟩
    have hbx := hg4.blk hb13.out hgB
    obtain ⟨u0, u1, u2, u3, u4, u5, e0, e1, e2, e3, e4, e5⟩ := st_box hbx
    have hgx := Lib.hid (hgr3.out.trans hg4)
    replace hC4 := Lib.hid hC4
    replace hst4 := Lib.hid hst4
    replace hbx := Lib.hid hbx
    replace hx4 := Lib.hid hx4
    clear hg4 hgr3 hb13 cS
    go_wp2
    exact st_fin rfl (by simp) hbx.out hst4.out hbg hgg hgx.out (fun h => by have : w1'.heap.size ≤ g := h; omega) (fun b h => by have : w1'.heap.size ≤ b := h; omega) hC4.out hx4.out
  rw [hsR] at tR
  rw [hsR, if_neg Bool.false_ne_true] at hr1
  clear hsR
  rcases hsH : sg kHalt (at_ l k) with _ | _
  rotate_left
  · rw [hsH] at tH
    rw [hsH, if_pos rfl] at hr1
    unfold halP at hr1
    have cE := Lib.hid (expect_any hst1 ks_halt (S := ⟨#[104, 97, 108, 116]⟩) rfl)
    replace hr1 := Lib.hid hr1
    clear hsH hst1
    go_wp2_with fail
    refine (cE.out).mono ?_
    rintro e w2 (⟨a1, k1, v1, hx1, rfl, hv1, hst1, hg1⟩ | ⟨c, ts, hx1, rfl, hg1⟩)
    case inr => exact ⟨rfl, Ae.bad (bad_of hr1.out hx1) (hgr1.out.trans hg1)⟩
    unfold UnitR at hv1
    subst hv1
    have hr2 := ok_of hr1.out hx1
    have hs2 := hg1.size
    have hCx := st_plain (W := w2) (F := fun b => w2.heap.size ≤ b) (s := .hlt) (I := none) (V := none) (Exs.nil w2 _) (Exs.nil w2 _) rfl rfl (K := 7) rfl (S := ⟨#[]⟩) rfl (li := 0) rfl (lv := 0) rfl
    have cS := Lib.hid (simple_any hst1 (F := fun b => w2.heap.size ≤ b) (fun b h => by have : w2.heap.size ≤ b := h; omega) hCx hr2)
    have hgr3 := Lib.hid (hgr1.out.trans hg1)
    have hb13 := Lib.hid (hg1.blk hb01.out hgB)
    clear hr1 hr2 hx1 hst1 hg1 hCx hgr1 hb01 cE
    go_wp2_with fail
    refine (cS.out).mono ?_
    rintro e w4 (⟨y, k4, v4, hx4, rfl, ⟨Kk, S', I, V, T', E, li, ci, lv, cv, lt, ct, le, ce, rfl, hC4⟩, hst4, hg4⟩ | ⟨c, ts, hx4, rfl, hg4⟩)
    case inr => exact ⟨rfl, Ae.bad hx4 (hgr3.out.trans hg4)⟩
    have hbx := hg4.blk hb13.out hgB
    obtain ⟨u0, u1, u2, u3, u4, u5, e0, e1, e2, e3, e4, e5⟩ := st_box hbx
    have hgx := Lib.hid (hgr3.out.trans hg4)
    replace hC4 := Lib.hid hC4
    replace hst4 := Lib.hid hst4
    replace hbx := Lib.hid hbx
    replace hx4 := Lib.hid hx4
    clear hg4 hgr3 hb13 cS
    go_wp2
    exact st_fin rfl (by simp) hbx.out hst4.out hbg hgg hgx.out (fun h => by have : w2.heap.size ≤ g := h; omega) (fun b h => by have : w2.heap.size ≤ b := h; omega) hC4.out hx4.out
  rw [hsH] at tH
  rw [hsH, if_neg Bool.false_ne_true] at hr1
  unfold defP at hr1
  have cN := Lib.hid (name_any hst1)
  replace hr1 := Lib.hid hr1
  clear hsH hst1
  go_wp2_with fail
  refine (cN.out).mono ?_
  rintro e w2 (⟨s, k2, v2, hx2, rfl, hv2, hst2, hg2⟩ | ⟨c, ts, hx2, rfl, hg2⟩)
  case inr => exact ⟨rfl, Ae.bad (bad_of hr1.out hx2) (hgr1.out.trans hg2)⟩
  obtain ⟨X, hX⟩ : ∃ X, strV s = .string X := ⟨_, rfl⟩
  unfold StrR at hv2
  rw [hX] at hv2
  subst hv2
  obtain ⟨q3, hq3, hr3⟩ := opt_of (ok_of hr1.out hx2)
  have cA := Lib.hid (action_any hst2 hX hq3)
  have hs2 := hg2.size
  have hgr2 := Lib.hid (hgr1.out.trans hg2)
  have hb12 := Lib.hid (hg2.blk hb01.out hgB)
  replace hr3 := Lib.hid hr3
  clear hr1 hx2 hst2 hg2 hgr1 hb01 cN hq3 hX
  go_wp2_with fail
  refine (cA.out).mono ?_
  rintro e w3 (⟨x, k3, v3, hx3, rfl, ⟨Kk, S', I, V, T', E, li, ci, lv, cv, lt, ct, le, ce, rfl, hC3⟩, hst3, hg3⟩ | ⟨c, ts, hx3, rfl, hg3⟩)
  case inr => exact ⟨rfl, Ae.bad (bad_of hr3.out hx3) (hgr2.out.trans hg3)⟩
  have hr4 := ok_of hr3.out hx3
  have hs3 := hg3.size
  have cS := Lib.hid (simple_any hst3 (F := fun b => w2.heap.size ≤ b) (fun b h => by have : w2.heap.size ≤ b := h; omega) hC3 hr4)
  have hgr3 := Lib.hid (hgr2.out.trans hg3)
  have hb13 := Lib.hid (hg3.blk hb12.out hgB)
  clear hr3 hr4 hx3 hst3 hg3 hC3 hgr2 hb12 cA
  go_wp2_with fail
  refine (cS.out).mono ?_
  rintro e w4 (⟨y, k4, v4, hx4, rfl, ⟨Kk, S', I, V, T', E, li, ci, lv, cv, lt, ct, le, ce, rfl, hC4⟩, hst4, hg4⟩ | ⟨c, ts, hx4, rfl, hg4⟩)
  case inr => exact ⟨rfl, Ae.bad hx4 (hgr3.out.trans hg4)⟩
  have hbx := hg4.blk hb13.out hgB
  obtain ⟨u0, u1, u2, u3, u4, u5, e0, e1, e2, e3, e4, e5⟩ := st_box hbx
  have hgx := Lib.hid (hgr3.out.trans hg4)
  replace hC4 := Lib.hid hC4
  replace hst4 := Lib.hid hst4
  replace hbx := Lib.hid hbx
  replace hx4 := Lib.hid hx4
  clear hg4 hgr3 hb13 cS
  go_wp2
  exact st_fin rfl (by simp) hbx.out hst4.out hbg hgg hgx.out (fun h => by have : w2.heap.size ≤ g := h; omega) (fun b h => by have : w2.heap.size ≤ b := h; omega) hC4.out hx4.out
/-- Each fuel: statement, statements, block. -/
theorem all_sta (base B : Nat) (l : List L19.Tok) : ∀ n, StmC base B l n ∧ StmsC base B l n ∧ BlkC base B l n
  | 0 => by
    refine ⟨?_, ?_, ?_⟩
    · intro m hm o k w r h hr
      obtain rfl : m = 0 := by omega
      rw [stm] at hr; cases hr
    · intro m hm o k w r h hr
      obtain rfl : m = 0 := by omega
      rw [stms] at hr; cases hr
    · intro m hm o k w r h hr
      obtain rfl : m = 0 := by omega
      rw [L20.block] at hr; cases hr
  | n + 1 => by
    obtain ⟨i1, i2, i3⟩ := all_sta base B l n
    have j1 : StmC base B l (n + 1) := by
      intro m hm o k w r h hr
      rcases Nat.lt_or_ge m (n + 1) with hl | hl
      · exact i1 m (by omega) o k w r h hr
      · obtain rfl : m = n + 1 := by omega
        exact statement_any i3 h hr
    refine ⟨j1, ?_, ?_⟩
    · intro m hm o k w r h hr
      exact statements_any (fun m' hm' => j1 m' (by omega)) h hr
    · intro m hm o k w r h hr
      rcases Nat.lt_or_ge m (n + 1) with hl | hl
      · exact i3 m (by omega) o k w r h hr
      · obtain rfl : m = n + 1 := by omega
        exact block_any i2 h hr
end
end Go.Proofs.YtpbcncfbfbghcaaGreatDoor.L20
