/- The walk of the law ErasureLinear. -/
import Derived.Test.YtcakdhnlgeiodaaE15Awake
import Derived.Test.YtcakdhnlgeiodaaE15Help
import Derived.Test.YtcakdhnlgeiodaaE15Lin
import Derived.Deep.RegionHeld3
import Derived.Deep.RegionLaw
import Derived.BigQuiet
import Derived.Deep.QuietTactic
namespace Go.Proofs.Ytcakdhnlgeiodaa.E15
set_option maxRecDepth 100000
open Go.RowKit Mem S14
open Go.Proofs.Ytcakdhnlgeiodaa.G5 Go.Proofs.Ytcakdhnlgeiodaa.G7
open Go.Proofs.Ytcakdhnlgeiodaa.G6 (IsSl rs rs_len rs_get rs_set rs_one rs_snoc make_zeros zeros_at own_zeros info_byte u8s conv_sl)
set_option linter.unusedVariables false
set_option linter.unusedSimpArgs false

/-- append of one string, as a step of a region that draws its order. -/
theorem step_appS {w : World} {ops : Array Oper} {o : Oper} {a : Act} {K : Act → World → Prop} {Q : Exit → Act → World → Prop} {E : Prop} (hgd : o.guard = none) (s x : Operand)
    (ho : o.op = .call { callee := .builtin .append, args := #[s, x], argTypes := #[22, 22] }) (base : Nat)
    (v : Value) (n : Nat) (xs : List Value) (b : Nat) (u : ByteArray)
    (hs : a.eval s = v) (hown : w.ownsRow base 9 1 v n xs) (hx : a.eval x = .slice (some ⟨b, 0, none⟩) 1 1) (hc : w.cell? ⟨b, 0, none⟩ = some (.string u)) (hn : n ≤ 1000000) (hbase : base ≤ w.heap.size)
    (h : ∀ v' w', w'.ownsRow base 9 1 v' (n + 1) (xs ++ [.string u]) → Below base w w' → K (a.put o.dst v') w') :
    if Region.wanted o (yielded ops a.tmps) = true then Oper.wp Try.prog o a w K Q else E := by
  rw [if_pos (by simp [Region.wanted, hgd])]
  obtain ⟨i0, hi0, hz0, hz1, hz2⟩ := info_parts info_str
  refine wp_append_own w s x 22 ho base 9 i0 (.string ⟨#[]⟩) 1 16 Try.underlying22 hi0 hz0 hz1 hz2 rfl (by decide) v n xs hs hown ⟨b, 0, none⟩ 1 1 [.string u] hx rfl (fun j y hj => by
    match j, hj with
    | 0, hj =>
      simp at hj
      subst hj
      rw [add_at]
      exact hc) (one_str _) (by unfold maxLen; omega) (by omega) hbase fun v' w' h1 h2 _ => h v' w' h1 ((Below.refl base w).grown h2 hbase (fun j hj => (hown.lt j hj).1))
theorem str_at (w : World) (x : Value) (t : TypeId) : (w.alloc (.cells #[x] t)).cell? ⟨w.heap.size, 0, none⟩ = some x := by
  have h := one_new w x t 0 x rfl
  rw [add_at] at h
  exact h
theorem rxor_str (a b : List R) (w : World) (ha : a.length ≤ 100000) (hb : b.length ≤ 100000) : Calls Try.prog 23 #[.string (str a), .string (str b)] w fun e w' => e = .returned (.string (str (xr a b))) ∧ Below w.heap.size w w' := by
  have h := rxor_any (str a) (str b) w (by rw [size_str]; exact ha) (by rw [size_str]; exact hb)
  rw [el_str, el_str] at h
  exact h
set_option maxHeartbeats 16000000 in
theorem walk_linear (A : Option Addr) (n c : Nat) (ls : List (List UInt8)) (A' : Option Addr) (n' c' : Nat) (ls' : List (List UInt8)) (k : Nat) (w : World) (h0 : IsStrs w A n c ls) (h0' : IsStrs w A' n' c' ls') (hk : k ≤ 255) :
    Calls Try.prog 8 #[.slice A n c, .slice A' n' c', .int .u8 (k : Int)] w fun e w' => e = .returned (.bool true) ∧ Below w.heap.size w w' := by
  obtain ⟨L, _, h⟩ := IsBs.of_strs h0
  obtain ⟨L', _, h'⟩ := IsBs.of_strs h0'
  have cV1 := even_any h
  have cV2 := fun (W : World) (hb : Below w.heap.size w W) => even_any (h'.below hb)
  have cA := fun W => awake_any W
  replace cV1 := Lib.hid cV1
  replace cV2 := Lib.hid cV2
  replace cA := Lib.hid cA
  clear h h0 h' h0'
  go_enter Try.func8, Try.ntmps8
  go_wp2_with fail
  refine (cV1.out).mono ?_
  rintro e w1 ⟨E1, m1, v1, hE1, rfl, hr1, hb1⟩
  replace cV2 := Lib.hid (cV2.out w1 hb1)
  replace hr1 := Lib.hid hr1
  replace hE1 := Lib.hid hE1
  replace hb1 := Lib.hid hb1
  clear cV1
  go_wp2_with fail
  refine (cV2.out).mono ?_
  rintro e w2 ⟨E2, m2, v2, hE2, rfl, hr2, hb2⟩
  have hq1 := own_below hr1.out hb2
  have hE1 := hE1.out
  have hb3 := Lib.hid (chain hb1.out hb2)
  have a1 := hE1.lo
  have a2 := hE1.hi
  have a3 := hE1.m40
  have a4 := hE2.lo
  have a5 := hE2.hi
  have a6 := hE2.m40
  obtain ⟨_, X, cx, rfl, hX⟩ := IsBs.of_own hq1
  obtain ⟨_, Y, cy, rfl, hY⟩ := IsBs.of_own hr2
  obtain ⟨gx, ox, rfl, hgx, x0⟩ := hX.get (k := 0) (by omega)
  obtain ⟨gy, oy, rfl, hgy, y0⟩ := hY.get (k := 0) (by omega)
  obtain ⟨A1, cp1, e1, _, _, _, h5⟩ := own_rd hq1
  injection e1 with e1 e2 e3
  subst e1 e3
  obtain ⟨hox, -, hgx1, -, -⟩ := h5 gx ox none rfl
  subst hox
  obtain ⟨A2, cp2, e1, _, _, _, h6⟩ := own_rd hr2
  injection e1 with e1 e2 e3
  subst e1 e3
  obtain ⟨hoy, -, hgy1, -, -⟩ := h6 gy oy none rfl
  subst hoy
  have hvx := VAt.of_row hq1
  have hvy := VAt.of_row hr2
  have hgxy : gx < gy := by have := (hr1.out.lt gx (by rfl)).2; omega
  rw [Nat.zero_add] at x0 y0
  obtain ⟨S1, hS1⟩ : ∃ S, str (E1[0]'(by omega)) = S := ⟨_, rfl⟩
  obtain ⟨S2, hS2⟩ : ∃ S, str (E2[0]'(by omega)) = S := ⟨_, rfl⟩
  have z1 : S1.size = m1 := by rw [← hS1, size_str]; exact hE1.len _ (List.getElem_mem _)
  have z2 : S2.size = m2 := by rw [← hS2, size_str]; exact hE2.len _ (List.getElem_mem _)
  rw [hS1] at x0
  rw [hS2] at y0
  obtain ⟨p1, hp1⟩ : ∃ p, E1.length = p := ⟨_, rfl⟩
  obtain ⟨p2, hp2⟩ : ∃ p, E2.length = p := ⟨_, rfl⟩
  rw [hp1] at a1 a2 hX ⊢
  rw [hp2] at a4 a5 hY ⊢
  obtain ⟨N, hN⟩ : ∃ N, min p1 p2 = N := ⟨_, rfl⟩
  obtain ⟨K, hK⟩ : ∃ K, min m1 m2 = K := ⟨_, rfl⟩
  have hmin1 : (if (p2 : Int) < (p1 : Int) then (p2 : Int) else (p1 : Int)) = (N : Int) := by split <;> omega
  have hmin2 : (if p2 < p1 then (p2 : Int) else (p1 : Int)) = (N : Int) := by split <;> omega
  have hmin3 : (if (m2 : Int) < (m1 : Int) then (m2 : Int) else (m1 : Int)) = (K : Int) := by split <;> omega
  have hmin4 : (if m2 < m1 then (m2 : Int) else (m1 : Int)) = (K : Int) := by split <;> omega
  have b1 : (1 : Int) ≤ (p1 : Int) := by omega
  have b2 : (1 : Int) ≤ (p2 : Int) := by omega
  have hXc := Lib.hid (And.intro hX.le hX.capm)
  have hYc := Lib.hid (And.intro hY.le hY.capm)
  replace hvx := Lib.hid hvx
  replace hvy := Lib.hid hvy
  replace hp1 := Lib.hid hp1
  replace hp2 := Lib.hid hp2
  replace hE1 := Lib.hid hE1
  replace hE2 := Lib.hid hE2
  replace hgx1 := Lib.hid hgx1
  replace hgy1 := Lib.hid hgy1
  have hw12 := Lib.hid hb2.size
  clear hq1 hr1 hr2 hb2 hX hY h5 h6 hS1 hS2 cV2
  go_wp2_with fail
  go_quiet (fail)
  rename_i nq _
  have hvx3 : Hid (VAt (w2.drewN nq) gx (bs E1)) := hvx
  have hvy3 : Hid (VAt (w2.drewN nq) gy (bs E2)) := hvy
  have hb4 : Hid (Below w.heap.size w (w2.drewN nq)) := Lib.hid (chainB hb3.out nq)
  have hs3 : (w2.drewN nq).heap.size = w2.heap.size := rfl
  obtain ⟨w3, hw3⟩ : ∃ W, w2.drewN nq = W := ⟨_, rfl⟩
  rw [hw3] at hvx3 hvy3 hb4 hs3 ⊢
  have hgx3 : gx < w3.heap.size := by rw [hs3]; exact hgx
  have hgy3 : gy < w3.heap.size := by rw [hs3]; exact hgy
  clear hw3 hvx hvy hb3 x0 y0 hgx hgy hs3
  obtain ⟨ZF, hZF⟩ : ∃ ZF : Nat → List R, (fun j => xr ((E1.getD j []).take K) ((E2.getD j []).take K)) = ZF := ⟨_, rfl⟩
  have o0 : Hid (VAt (w3.alloc (.cells #[] 9)) gx (bs (cutL E1 K 0))) := Lib.hid (by rw [cutL_zero]; exact hvx3.out.below ((Below.refl w3.heap.size w3).alloc (Nat.le_refl _) _) hgx3)
  have o1 : Hid (VAt (w3.alloc (.cells #[] 9)) gy (bs (cutL E2 K 0))) := Lib.hid (by rw [cutL_zero]; exact hvy3.out.below ((Below.refl w3.heap.size w3).alloc (Nat.le_refl _) _) hgy3)
  have o2 : Hid ((w3.alloc (.cells #[] 9)).ownsRow w3.heap.size 9 1 (.slice (some ⟨w3.heap.size, 0, none⟩) 0 0) 0 (bs ((List.range 0).map ZF))) := Lib.hid (empty_at rfl (Nat.le_refl _))
  have o3 : Hid (Below w.heap.size w (w3.alloc (.cells #[] 9))) := Lib.hid (hb4.out.alloc hb4.out.size _)
  have o4 : Hid (w3.heap.size ≤ (w3.alloc (.cells #[] 9)).heap.size) := Lib.hid (by simp)
  have N1 : 1 ≤ N := by omega
  have N8 : N ≤ 8 := by omega
  have Np1 : N ≤ p1 := by omega
  have Np2 : N ≤ p2 := by omega
  have K40 : K ≤ 40 := by omega
  have Km1 : K ≤ m1 := by omega
  have Km2 : K ≤ m2 := by omega
  have K0 : (0 : Int) ≤ (K : Int) := by omega
  clear hvx3 hvy3 hN hK hmin1 hmin2 hmin3 hmin4
  go_wp2
  go_loopw [11, 12] (fun vv iv wr => ∃ (i : Nat) (v : Value), v = vv ∧ iv = .int .i64 (i : Int) ∧ i ≤ N ∧ Hid (VAt wr gx (bs (cutL E1 K i))) ∧ Hid (VAt wr gy (bs (cutL E2 K i))) ∧ Hid (wr.ownsRow w3.heap.size 9 1 v i (bs ((List.range i).map ZF))) ∧ Hid (Below w.heap.size w wr) ∧ Hid (w3.heap.size ≤ wr.heap.size)) (fun _ iv _ => N - (intOf iv).toNat)
  case atStart => exact ⟨0, _, rfl, rfl, Nat.zero_le _, o0, o1, o2, o3, o4⟩
  case round =>
    clear o0 o1 o2 o3 o4
    obtain ⟨i, v, rfl, rfl, hi, hx, hy, hrow, hb, hsz⟩ := hrel
    by_cases hit : i < N
    · have di : decide ((i : Int) < (N : Int)) = true := decide_eq_true (by omega)
      have k0 : (0 : Int) ≤ (i : Int) := by omega
      have k1 : (i : Int) < (N : Int) := by omega
      have k2 : (i : Int) < (p1 : Int) := by omega
      have k3 : (i : Int) < (p2 : Int) := by omega
      have hi1 : i < E1.length := by have := hp1.out; omega
      have hi2 : i < E2.length := by have := hp2.out; omega
      have hl1 : (bs (cutL E1 K i)).length = p1 := by rw [bs_len, cutL_len, hp1.out]
      have hl2 : (bs (cutL E2 K i)).length = p2 := by rw [bs_len, cutL_len, hp2.out]
      have gX := hx.out i (by omega)
      have gY := hy.out i (by omega)
      have eX : (bs (cutL E1 K i))[i]'(by omega) = .string (str (E1.getD i [])) := by simp only [bs, List.getElem_map, cutL_get E1 K hi1]
      have eY : (bs (cutL E2 K i))[i]'(by omega) = .string (str (E2.getD i [])) := by simp only [bs, List.getElem_map, cutL_get E2 K hi2]
      rw [eX] at gX
      rw [eY] at gY
      have l1 := getD_len hp1.out hE1.out.len (show i < p1 by omega)
      have l2 := getD_len hp2.out hE2.out.len (show i < p2 by omega)
      obtain ⟨d1, hd1⟩ : ∃ d, E1.getD i [] = d := ⟨_, rfl⟩
      obtain ⟨d2, hd2⟩ : ∃ d, E2.getD i [] = d := ⟨_, rfl⟩
      have hcs1 := cutL_set E1 K hi1
      have hcs2 := cutL_set E2 K hi2
      have hcd1 := cutL_done E1 K hi1
      have hcd2 := cutL_done E2 K hi2
      rw [hd1] at gX l1 hcs1 hcd1
      rw [hd2] at gY l2 hcs2 hcd2
      have hZi : ZF i = xr (d1.take K) (d2.take K) := by rw [← hZF, ← hd1, ← hd2]
      have hst1 := str_take d1 K (by omega)
      have hst2 := str_take d2 K (by omega)
      obtain ⟨T1, hT1⟩ : ∃ S, str d1 = S := ⟨_, rfl⟩
      obtain ⟨T2, hT2⟩ : ∃ S, str d2 = S := ⟨_, rfl⟩
      have s1 : T1.size = m1 := by rw [← hT1, size_str, l1]
      have s2 : T2.size = m2 := by rw [← hT2, size_str, l2]
      rw [hT1] at gX hst1
      rw [hT2] at gY hst2
      obtain ⟨U1, hU1⟩ : ∃ S, str (d1.take K) = S := ⟨_, rfl⟩
      obtain ⟨U2, hU2⟩ : ∃ S, str (d2.take K) = S := ⟨_, rfl⟩
      rw [hU1] at hst1
      rw [hU2] at hst2
      obtain ⟨gX, fX⟩ := gX
      obtain ⟨gY, fY⟩ := gY
      have c1 : (K : Int) ≤ (m1 : Int) := by omega
      have c2' : (K : Int) ≤ (m2 : Int) := by omega
      have hxy : gx ≠ gy := by omega
      -- behind the stores
      have gY1 : (wr.setCell ⟨gx, i, none⟩ (.string U1)).cell? ⟨gy, i, none⟩ = some (.string T2) := (World.cell?_setCell_other _ _ _ _ (fun e => hxy (by injection e))).trans gY
      have fY1 : (wr.setCell ⟨gx, i, none⟩ (.string U1)).frozen? ⟨gy, i, none⟩ = false := (World.frozen?_setCell _ _ _ _).trans fY
      have gX1 : (wr.setCell ⟨gy, i, none⟩ (.string U2)).cell? ⟨gx, i, none⟩ = some (.string T1) := (World.cell?_setCell_other _ _ _ _ (fun e => hxy (by injection e with e; exact e.symm))).trans gX
      have fX1 : (wr.setCell ⟨gy, i, none⟩ (.string U2)).frozen? ⟨gx, i, none⟩ = false := (World.frozen?_setCell _ _ _ _).trans fX
      have hro := hrow.out
      have hx2 := hx.out.set (k := i) (by omega) (.string U1)
      have hy2 := hy.out.set (k := i) (by omega) (.string U2)
      rw [← hU1, bs_set, hcs1, hU1] at hx2
      rw [← hU2, bs_set, hcs2, hU2] at hy2
      have r0 : Hid (VAt ((wr.setCell ⟨gx, i, none⟩ (.string U1)).setCell ⟨gy, i, none⟩ (.string U2)).drew gx (bs (cutL E1 K (i + 1)))) := Lib.hid ((hx2.far (fun e => hxy e.symm) _).drew)
      have r1 : Hid (VAt ((wr.setCell ⟨gx, i, none⟩ (.string U1)).setCell ⟨gy, i, none⟩ (.string U2)).drew gy (bs (cutL E2 K (i + 1)))) := Lib.hid (by
        have h1 := (hy.out.far hxy (.string U1) (k := i)).set (k := i) (by omega) (.string U2)
        rw [← hU2, bs_set, hcs2, hU2] at h1
        exact h1.drew)
      have r2 : ((wr.setCell ⟨gx, i, none⟩ (.string U1)).setCell ⟨gy, i, none⟩ (.string U2)).drew.ownsRow w3.heap.size 9 1 v i (bs ((List.range i).map ZF)) := ownsRow_setCell_below (ownsRow_setCell_below hro (show gx < w3.heap.size from hgx3) _) (show gy < w3.heap.size from hgy3) _
      have r3 : Hid (Below w.heap.size w ((wr.setCell ⟨gx, i, none⟩ (.string U1)).setCell ⟨gy, i, none⟩ (.string U2)).drew) := Lib.hid (chainB ((hb.out.setCell (p := ⟨gx, i, none⟩) hgx1.out _).setCell (p := ⟨gy, i, none⟩) (Nat.le_trans hgx1.out (Nat.le_of_lt hgxy)) _) 1)
      have r4 : w3.heap.size ≤ ((wr.setCell ⟨gx, i, none⟩ (.string U1)).setCell ⟨gy, i, none⟩ (.string U2)).drew.heap.size := by simpa using hsz.out
      have cX := fun W => rxor_str (d1.take K) (d2.take K) W (by rw [List.length_take]; omega) (by rw [List.length_take]; omega)
      rw [hU1, hU2, ← hZi] at cX
      obtain ⟨UZ, hUZ⟩ : ∃ S, str (ZF i) = S := ⟨_, rfl⟩
      rw [hUZ] at cX
      have hsn : Hid (bs ((List.range (i + 1)).map ZF) = bs ((List.range i).map ZF) ++ [.string UZ]) := Lib.hid (by rw [List.range_succ, List.map_append, List.map_cons, List.map_nil, bs_snoc, hUZ])
      have cg1 := (r0.out i (by rw [bs_len, cutL_len]; exact hi1)).1
      have cg2 := (r1.out i (by rw [bs_len, cutL_len]; exact hi2)).1
      rw [show (bs (cutL E1 K (i + 1)))[i]'(by rw [bs_len, cutL_len]; exact hi1) = .string U1 by simp only [bs, List.getElem_map, hcd1, hU1]] at cg1
      rw [show (bs (cutL E2 K (i + 1)))[i]'(by rw [bs_len, cutL_len]; exact hi2) = .string U2 by simp only [bs, List.getElem_map, hcd2, hU2]] at cg2
      replace cX := Lib.hid cX
      clear hx2 hy2 hcs1 hcs2 hcd1 hcd2 hx hy hrow hb hsz hd1 hd2 hT1 hT2 hU1 hU2 hUZ hZi eX eY hro
      go_wp2_with fail
      go_region
      clear gX gY fX fY gX1 fX1 gY1 fY1
      obtain ⟨W4, hW4⟩ : ∃ W, ((wr.setCell ⟨gx, i, none⟩ (.string U1)).setCell ⟨gy, i, none⟩ (.string U2)).drew = W := ⟨_, rfl⟩
      rw [hW4] at r0 r1 r2 r3 r4 cg1 cg2 ⊢
      have keep0 := Below.refl w3.heap.size W4
      have keep1 : ∀ W, Below w3.heap.size W4 W → Below w3.heap.size W4 (World.drew W) := fun W h => chainB h 1
      have keepA : ∀ W o, Below w3.heap.size W4 W → Below w3.heap.size W4 (World.alloc W o) := fun W o h => h.alloc (Nat.le_trans r4 h.size) o
      have keepX : ∀ W W', Below w3.heap.size W4 W → Below W.heap.size W W' → Below w3.heap.size W4 W' := fun W W' h k => h.trans (k.mono (Nat.le_trans r4 h.size))
      have keepP : ∀ W W', Below w3.heap.size W4 W → Below w3.heap.size W W' → Below w3.heap.size W4 W' := fun W W' h k => h.trans k
      have q1 : ∀ W, Below w3.heap.size W4 W → W.cell? ⟨gx, i, none⟩ = some (.string U1) := fun W h => (h.cell (p := ⟨gx, i, none⟩) hgx3).trans cg1
      have q2 : ∀ W, Below w3.heap.size W4 W → W.cell? ⟨gy, i, none⟩ = some (.string U2) := fun W h => (h.cell (p := ⟨gy, i, none⟩) hgy3).trans cg2
      have hbsz : ∀ W, Below w3.heap.size W4 W → w3.heap.size ≤ W.heap.size := fun W h => Nat.le_trans r4 h.size
      clear hW4 cg1 cg2
      go_wp2_with fail
      go_region_held3 (fun W => Below w3.heap.size W4 W) (first | exact keep0 | exact keep1 _ keep0 | exact keep1 _ (by assumption) | exact keepA _ _ (by assumption) | exact keepX _ _ (by assumption) (by assumption) | exact keepX _ _ (keep1 _ keep0) (by assumption) | exact keepP _ _ (keepA _ _ (by assumption)) (by assumption) | assumption) (first
        | (go_at_call 23; (with_reducible refine (cX.out _).mono ?_); rintro e w5 ⟨rfl, hb5⟩; have hS5 : Below w3.heap.size W4 w5 := (by first | exact keepX _ _ keep0 hb5 | exact keepX _ _ (keep1 _ keep0) hb5); have hbs5 := hbsz w5 hS5)
        | ((refine step_appS (by rfl) _ _ (by rfl) w3.heap.size v i (bs ((List.range i).map ZF)) _ UZ (by rfl) (show World.ownsRow _ _ _ _ _ _ _ from World.ownsRow.alloc (own_below r2 (by first | exact hb5 | exact chain (chainN (Below.refl _ _) 1) hb5)) _) (by rfl) (str_at w5 _ _) (by omega) (by simp; omega) ?_); intro v6 w6 hown6 hbel6; have hS6 : Below w3.heap.size W4 w6 := (by first | exact keepP _ _ (keepA _ _ hS5) hbel6 | exact keepP _ _ (keep1 _ (keepA _ _ hS5)) hbel6)))
      all_goals
        have f0 := Lib.hid (r0.out.below hS6 hgx3)
        have f1 := Lib.hid (r1.out.below hS6 hgy3)
        have f3 := Lib.hid (r3.out.trans (hS6.mono hb4.out.size))
        have f4 := Lib.hid (hbsz w6 hS6)
        rw [← hsn.out] at hown6
        clear keep0 keep1 keepA keepX keepP q1 q2 hbsz r0 r1 r2 r3 r4 hS5 hS6 hb5 hbs5 hbel6 cX
        go_wp2
        go_roundw
        case rel => exact ⟨i + 1, _, rfl, by go_num, by omega, f0, f1, Lib.hid hown6, f3, f4⟩
        case measure => simp [intOf]; omega
    · obtain rfl : i = N := by omega
      have di : decide ((i : Int) < (i : Int)) = false := decide_eq_false (by omega)
      obtain ⟨M, hM⟩ : ∃ M, k % 8 = M := ⟨_, rfl⟩
      have M7 : M ≤ 7 := by omega
      have e1 : (k : Int) % 8 = (M : Int) := by omega
      have e2 : (k : Int).tmod 8 = (M : Int) := by rw [Int.tmod_eq_emod_of_nonneg (by omega)]; exact e1
      have k0 : (0 : Int) ≤ (k : Int) := by omega
      have k255 : (k : Int) ≤ 255 := by omega
      have M0 : (0 : Int) ≤ (M : Int) := by omega
      have M7i : (M : Int) ≤ 7 := by omega
      have hB1 : IsBs wr (some ⟨gx, 0, none⟩) i cx (cutN E1 K i) := by
        have := (IsBs.of_at hx.out (n := p1) (cap := cx) (by rw [cutL_len, hp1.out]) hXc.out.1 hXc.out.2).take (d := i) Np1
        rwa [cutL_take _ _ _ (by rw [hp1.out]; exact Np1)] at this
      have hB2 : IsBs wr (some ⟨gy, 0, none⟩) i cy (cutN E2 K i) := by
        have := (IsBs.of_at hy.out (n := p2) (cap := cy) (by rw [cutL_len, hp2.out]) hYc.out.1 hYc.out.2).take (d := i) Np2
        rwa [cutL_take _ _ _ (by rw [hp2.out]; exact Np2)] at this
      have hD1 : ∀ b ∈ cutN E1 K i, b.length = K := cutN_all (by rw [hp1.out]; exact Np1) hE1.out.len Km1
      have hD2 : ∀ b ∈ cutN E2 K i, b.length = K := cutN_all (by rw [hp2.out]; exact Np2) hE2.out.len Km2
      have hl1 := cutN_len E1 K i
      have hl2 := cutN_len E2 K i
      have hZ : (List.range i).map ZF = xorN (cutN E1 K i) (cutN E2 K i) i := by
        unfold xorN
        refine List.map_congr_left fun j hj => ?_
        have hj' := List.mem_range.1 hj
        rw [← hZF]
        simp [cutN, List.getD_eq_getElem?_getD, hj']
      have hro := hrow.out
      rw [hZ] at hro
      obtain ⟨_, A3, c3, rfl, hB3⟩ := IsBs.of_own hro
      have hD3 := xorN_all hl1 hl2 hD1 hD2
      have hl3 := xorN_len (cutN E1 K i) (cutN E2 K i) i
      have hlin := fun (x : R) => stD_xor hl1 hl2 hD1 hD2 x
      obtain ⟨g1, h1⟩ := enc_good hl1 hD1 N1 N8 M7
      obtain ⟨g2, h2⟩ := enc_good hl2 hD2 N1 N8 M7
      obtain ⟨g3, h3⟩ := enc_good hl3 hD3 N1 N8 M7
      obtain ⟨D3, hD3e⟩ : ∃ D, xorN (cutN E1 K i) (cutN E2 K i) i = D := ⟨_, rfl⟩
      rw [hD3e] at hB3 hD3 hl3 g3 h3
      simp only [hD3e] at hlin
      obtain ⟨D1, hD1e⟩ : ∃ D, cutN E1 K i = D := ⟨_, rfl⟩
      obtain ⟨D2, hD2e⟩ : ∃ D, cutN E2 K i = D := ⟨_, rfl⟩
      rw [hD1e] at hB1 hD1 hl1 g1 h1
      rw [hD2e] at hB2 hD2 hl2 g2 h2
      simp only [hD1e, hD2e] at hlin
      have cE1 := encode_own (M : Int) (by omega) hB1 (fun b hb => by rw [hD1 b hb]; omega)
      have cE2 := fun (W : World) (h : Below wr.heap.size wr W) => encode_own (M : Int) (by omega) (hB2.below h) (fun b hb => by rw [hD2 b hb]; omega)
      have cE3 := fun (W : World) (h : Below wr.heap.size wr W) => encode_own (M : Int) (by omega) (hB3.below h) (fun b hb => by rw [hD3 b hb]; omega)
      have hlen : ∀ x, (stD D1 K x).length = K ∧ (stD D2 K x).length = K := fun x => ⟨(stD_stripe D1 K).len x, (stD_stripe D2 K).len x⟩
      have cxx : (i : Int) ≤ (cx : Int) := by have := hXc.out.1; omega
      have cyy : (i : Int) ≤ (cy : Int) := by have := hYc.out.1; omega
      have cx63 : (cx : Int) ≤ 9223372036854775807 := by have := hXc.out.2; unfold maxLen at this; omega
      have cy63 : (cy : Int) ≤ 9223372036854775807 := by have := hYc.out.2; unfold maxLen at this; omega
      have i0 : (0 : Int) ≤ (i : Int) := by omega
      have hbw := hb
      replace cE1 := Lib.hid cE1
      replace cE2 := Lib.hid cE2
      replace cE3 := Lib.hid cE3
      replace g1 := Lib.hid g1
      replace g2 := Lib.hid g2
      replace g3 := Lib.hid g3
      replace h1 := Lib.hid h1
      replace h2 := Lib.hid h2
      replace h3 := Lib.hid h3
      replace hl1 := Lib.hid hl1
      replace hl2 := Lib.hid hl2
      replace hl3 := Lib.hid hl3
      replace hlin := Lib.hid hlin
      replace hlen := Lib.hid hlen
      clear hx hy hrow hro hZ hZF hB1 hB2 hB3 hD1 hD2 hD3 hD1e hD2e hD3e hsz hb4 hE1 hE2 hXc hYc hgx1 hgy1 hM
      go_wp2_with fail
      refine (cE1.out).mono ?_
      rintro e w5 ⟨k1, b1, A5, c5, hq1, rfl, hB5, hb5⟩
      have z1 := hq1.ok g1.out
      subst z1
      have y1 := (hq1.yes rfl).2
      rw [h1.out, hl1.out, show ((M : Int)).toNat = M from rfl] at y1
      have x1 : b1.length = M := by rw [y1]; simp
      replace cE2 := Lib.hid (cE2.out w5 hb5)
      rw [x1] at hB5 ⊢
      have hb5h := Lib.hid hb5
      replace hB5 := Lib.hid hB5
      clear hq1 hb5 cE1
      go_wp2_with fail
      refine (cE2.out).mono ?_
      rintro e w6 ⟨k2, b2, A6, c6, hq2, rfl, hB6, hb6⟩
      have z2 := hq2.ok g2.out
      subst z2
      have y2 := (hq2.yes rfl).2
      rw [h2.out, hl2.out, show ((M : Int)).toNat = M from rfl] at y2
      have x2 : b2.length = M := by rw [y2]; simp
      have hb6h := Lib.hid (chain hb5h.out hb6)
      replace cE3 := Lib.hid (cE3.out w6 hb6h.out)
      rw [x2] at hB6 ⊢
      have hB5b := Lib.hid (hB5.out.below hb6)
      replace hB6 := Lib.hid hB6
      clear hq2 hb6 cE2 hB5 hb5h
      go_wp2_with fail
      refine (cE3.out).mono ?_
      rintro e w7 ⟨k3, b3, A7, c7, hq3, rfl, hB7, hb7⟩
      have z3 := hq3.ok g3.out
      subst z3
      have y3 := (hq3.yes rfl).2
      rw [h3.out, hl3.out, show ((M : Int)).toNat = M from rfl] at y3
      have x3 : b3.length = M := by rw [y3]; simp
      have hb8 := Lib.hid (hbw.out.trans ((chain hb6h.out hb7).mono hbw.out.size))
      rw [x3] at hB7 ⊢
      have hU := hB5b.out.below hb7
      have hV := hB6.out.below hb7
      have hgu := fun (j : Nat) (hj : j < M) => hU.get (k := j) (by omega)
      have hgv := fun (j : Nat) (hj : j < M) => hV.get (k := j) (by omega)
      have hgw := fun (j : Nat) (hj : j < M) => hB7.get (k := j) (by omega)
      have ew : ∀ j (hj : j < M), b3[j]'(by omega) = xr (b1[j]'(by omega)) (b2[j]'(by omega)) := fun j hj => by
        simp only [y1, y2, y3, List.getElem_map, List.getElem_range]
        exact hlin.out _
      have el12 : ∀ j (hj : j < M), (b1[j]'(by omega)).length = K ∧ (b2[j]'(by omega)).length = K := fun j hj => by
        simp only [y1, y2, List.getElem_map, List.getElem_range]
        exact hlen.out _
      have t0 : ((M : Int) != (M : Int)) = false := by simp
      replace hgu := Lib.hid hgu
      replace hgv := Lib.hid hgv
      replace hgw := Lib.hid hgw
      replace ew := Lib.hid ew
      replace el12 := Lib.hid el12
      have hM7 := M7
      clear hq3 hb7 cE3 hB5b hB6 hB7 hU hV y1 y2 y3 hlin hlen h1 h2 h3 hl1 hl2 hl3 g1 g2 g3 hb6h hbw
      go_wp2
      go_loopw [128] (fun iv wi => ∃ (j : Nat), iv = .int .i64 (j : Int) ∧ j ≤ M ∧ Hid (Below w7.heap.size w7 wi)) (fun iv _ => M - (intOf iv).toNat)
      case atStart => exact ⟨0, rfl, Nat.zero_le _, Lib.hid (Below.refl _ _)⟩
      case round =>
        obtain ⟨j, rfl, hj, hb9⟩ := hrel
        by_cases hjt : j < M
        · have dj : decide ((j : Int) < (M : Int)) = true := decide_eq_true (by omega)
          have j0 : (0 : Int) ≤ (j : Int) := by omega
          have j1 : (j : Int) < (M : Int) := by omega
          obtain ⟨bu, ou, rfl, hbu, gu⟩ := hgu.out j hjt
          obtain ⟨bv_, ov, rfl, hbv, gv⟩ := hgv.out j hjt
          obtain ⟨bw, ow, rfl, hbw, gw⟩ := hgw.out j hjt
          have eww := ew.out j hjt
          obtain ⟨lu, lv⟩ := el12.out j hjt
          have cX := fun W => rxor_str (b1[j]'(by omega)) (b2[j]'(by omega)) W (by omega) (by omega)
          rw [← eww] at cX
          obtain ⟨SU, hSU⟩ : ∃ S, str (b1[j]'(by omega)) = S := ⟨_, rfl⟩
          obtain ⟨SV, hSV⟩ : ∃ S, str (b2[j]'(by omega)) = S := ⟨_, rfl⟩
          obtain ⟨SW, hSW⟩ : ∃ S, str (b3[j]'(by omega)) = S := ⟨_, rfl⟩
          rw [hSU] at gu
          rw [hSV] at gv
          rw [hSW] at gw
          simp only [hSU, hSV, hSW] at cX
          have q0 : (SW.toList != SW.toList) = false := by simp
          have q1 : ∀ W, Below wr.heap.size wr W → W.cell? ⟨bu, ou + j, none⟩ = some (.string SU) := fun W h => ((hb9.out.trans (h.mono hb9.out.size)).cell (p := ⟨bu, ou + j, none⟩) hbu).trans gu
          have q2 : ∀ W, Below wr.heap.size wr W → W.cell? ⟨bv_, ov + j, none⟩ = some (.string SV) := fun W h => ((hb9.out.trans (h.mono hb9.out.size)).cell (p := ⟨bv_, ov + j, none⟩) hbv).trans gv
          have q3 : ∀ W, Below wr.heap.size wr W → W.cell? ⟨bw, ow + j, none⟩ = some (.string SW) := fun W h => ((hb9.out.trans (h.mono hb9.out.size)).cell (p := ⟨bw, ow + j, none⟩) hbw).trans gw
          have keep0 := Below.refl wr.heap.size wr
          have keep1 : ∀ W, Below wr.heap.size wr W → Below wr.heap.size wr (World.drew W) := fun W h => chainN h 1
          replace cX := Lib.hid cX
          clear hSU hSV hSW eww ew hgu hgv hgw gu gv gw hbu hbv hbw
          go_wp2_with fail
          go_region_held3 (fun W => Below wr.heap.size wr W) (first | exact keep0 | exact keep1 _ keep0 | exact chain ‹_› ‹_› | assumption) (first | (go_at_call 23; (with_reducible refine (cX.out _).mono ?_); rintro e w8 ⟨rfl, hb10⟩))
          have hbw8 : Below wr.heap.size wr w8 := by assumption
          have hb11 := Lib.hid (hb9.out.trans (hbw8.mono hb9.out.size))
          clear keep0 keep1 q1 q2 q3 cX hbw8
          go_wp2
          go_roundw
          case rel => exact ⟨j + 1, by go_num, by omega, hb11⟩
          case measure => simp [intOf]; omega
        · obtain rfl : j = M := by omega
          have dj : decide ((j : Int) < (j : Int)) = false := decide_eq_false (by omega)
          have hb12 := Lib.hid (hb8.out.trans (hb9.out.mono hb8.out.size))
          replace cA := Lib.hid (cA.out wr)
          clear hgu hgv hgw ew el12 hb8 hb9
          go_wp2_with fail
          refine (cA.out).mono ?_
          rintro e w8 ⟨rfl, hb10⟩
          have hfin := Lib.hid (chain hb12.out hb10)
          clear cA hb12 hb10
          go_wp2
          go_ret
          exact ⟨rfl, hfin.out⟩
end Go.Proofs.Ytcakdhnlgeiodaa.E15
