/- Facts and contracts that the walks of this layer use, merged: G8Own2, G8Own3. -/
import Derived.Test.YtiodkllckcpinaaGreatDoorM14AL
import Derived.Test.YtiodkllckcpinaaGreatDoorM14AP
import Derived.Test.YtiodkllckcpinaaGreatDoorM14AI
import Derived.Test.YtiodkllckcpinaaGreatDoorM14AH
import Derived.Deep.RegionHeld3
import Derived.Deep.RegionWith
import Derived.Deep.Cut
set_option linter.unusedVariables false
set_option linter.unusedSimpArgs false
set_option maxRecDepth 100000
namespace Go.Proofs.YtiodkllckcpinaaGreatDoor
namespace G8
open G5
open G7
open G6 (mb rs rs_len rs_get IsSl Gives VAt.setR VAt.readR make_zeros zeros_at mulL ev ev_mulL ev_one ev_cons mulL_tr Tr trim addL lenOf mulP_own addP_own div1_own Dvd one_ne eq_getD getD_set getD_app getD_zeros xz)
open Go.RowKit Mem

theorem xp_set (n : Nat) : (List.replicate (n + 1) (0#8)).set n 1 = xp n := by
 refine eq_getD (by rw [List.length_set, xp_len]; simp) fun j hj => ?_
 have hj : j < n + 1 := by simpa using hj
 unfold xp
 rw [getD_set _ _ _ _ (by simp), getD_app, List.length_replicate]
 by_cases e : j = n
 ·subst e
  rw [if_pos rfl, if_neg (by omega), Nat.sub_self]
  rfl
 ·rw [if_neg e, if_pos (by omega), getD_zeros]
  exact (gz _ _).symm
set_option maxHeartbeats 1000000 in
theorem power_gives (n : Nat) (w : World) (hn : n ≤ 1000) : Calls Tryz.prog 203 #[.int .i64 (n : Int)] w (Gives w (xp n)) := by
 obtain ⟨N, hN⟩ : ∃ N, n + 1 = N := ⟨_, rfl⟩
 have e1 : (n : Int) + 1 = (N : Int) := by omega
 have hmk := make_zeros w N (by omega)
 have hat := zeros_at w N (by omega)
 have ob := mb w (.cells (madeCells #[.int .u8 0] N) 5)
 obtain ⟨G, hG⟩ : ∃ G, w.heap.size = G := ⟨_, rfl⟩
 have hgl : G < (w.alloc (.cells (madeCells #[.int .u8 0] N) 5)).heap.size := by rw [← hG]; simp
 rw [hG] at hat hmk
 obtain ⟨W1, hW1⟩ : ∃ W1, w.alloc (.cells (madeCells #[.int .u8 0] N) 5) = W1 := ⟨_, rfl⟩
 rw [hW1] at hmk hat ob hgl
 clear hW1
 obtain ⟨hn1, hf1⟩ := VAt.readR hat (k := n) (by simp; omega)
 have hat2 := VAt.setR hat (k := n) (by simp; omega) 1#8
 have hb2 := ob.setCell (p := ⟨G, n, none⟩) (by rw [hG]; exact Nat.le_refl _) (bv 1#8)
 rw [← hN] at hat2
 rw [show (List.replicate (n + 1) (0#8)).set n 1#8 = xp n from xp_set n] at hat2
 have hgl2 : G < (W1.setCell ⟨G, n, none⟩ (bv 1#8)).heap.size := by simpa using hgl
 have hsl := Lib.hid (IsSl.of_at (n := N) hat2 (by rw [xp_len]; exact hN) (by omega) hgl2)
 have hlen := Lib.hid (show (xp n).length = N by rw [xp_len]; exact hN)
 have hb2 := Lib.hid hb2
 have n0 : (0 : Int) ≤ (n : Int) := by omega
 have n1 : (n : Int) < (N : Int) := by omega
 clear hat hat2 hgl hgl2 ob hN
 have hGh := Lib.hid hG
 go_enter Tryz.func203, Tryz.ntmps203
 go_wp2
 go_ret
 exact ⟨_, N, by rw [hlen.out]; rfl, hsl.out, hb2.out⟩

def rt (n i : Nat) : R := ex (-((n - 1 - i : Nat) : Int))
theorem rt_lc (n i : Nat) : tms (lc n i) (rt n i) = 1 := by
 unfold lc rt
 rw [← ex_nat, ← ex_add, Int.add_right_neg]
 rfl
theorem rt_ne (n i : Nat) : rt n i ≠ 0 := fun e => by
 have := rt_lc n i
 rw [e, tms_zero] at this
 exact one_ne this.symm
theorem rt_iv (n i : Nat) : iv (rt n i) = lc n i := (iv_only (by rw [tms_comm]; exact rt_lc n i)).symm
set_option maxHeartbeats 1000000 in
theorem root_own {n i : Nat} (w : World) (hn : n ≤ 1000) (hi : i < n) : Calls Tryz.prog 177 #[.int .i64 (i : Int), .int .i64 (n : Int)] w fun e w' => e = .returned (bv (rt n i)) ∧ Below w.heap.size w w' := by
 have cE := exp_own (-((n - 1 - i : Nat) : Int)) w (by omega) (by omega)
 obtain ⟨N, hN⟩ : ∃ N, n = N + 1 := ⟨n - 1, by omega⟩
 obtain ⟨d, hd⟩ : ∃ d, n - 1 - i = d := ⟨_, rfl⟩
 unfold rt
 rw [hd] at cE ⊢
 have cE := Lib.hid cE
 have e1 : (n : Int) - 1 = (N : Int) := by omega
 have e2 : (N : Int) - (i : Int) = (d : Int) := by omega
 have hN2 : N ≤ 1000 := by omega
 have hd2 : d ≤ 1000 := by omega
 have hd3 := Lib.hid hd
 clear hN hd
 go_enter Tryz.func177, Tryz.ntmps177
 go_wp2_with fail
 refine cE.out.mono ?_
 rintro e w1 ⟨rfl, hb⟩
 go_wp2
 go_ret
 exact ⟨rfl, hb⟩

/-! ### the locator of places -/
def glm (n : Nat) (ms : List Nat) : List R := ms.foldl (fun q m => mulL q [1, lc n m]) [1]
theorem glm_snoc (n : Nat) (ms : List Nat) (m : Nat) : glm n (ms ++ [m]) = mulL (glm n ms) [1, lc n m] := by simp [glm]
theorem ev_two (X x : R) : ev [1, X] x = 1 ^^^ tms X x := by rw [ev_cons, ev_one, tms_comm]
theorem glm_from (n : Nat) : ∀ (ms : List Nat) (q : List R), Tr q → q ≠ [] → Tr (ms.foldl (fun q m => mulL q [1, lc n m]) q) ∧ (ms.foldl (fun q m => mulL q [1, lc n m]) q).length = q.length + ms.length ∧
  ∀ x, ev (ms.foldl (fun q m => mulL q [1, lc n m]) q) x = tms (ev q x) (ev (loc n ms) x)
 | [], q, h, _ => ⟨h, rfl, fun x => by rw [loc_nil, tms_one]; rfl⟩
 | m :: ms, q, h, h0 => by
  have ht : Tr [1, lc n m] := Tr.snoc (lc_ne n m) [1]
  obtain ⟨t1, t2⟩ := Tr.ml h ht h0 (by simp)
  have e : mulL q [1, lc n m] = G6.ml q [1, lc n m] := t1.eq
  have hl : (mulL q [1, lc n m]).length = q.length + 1 := by rw [e]; simp at t2; omega
  obtain ⟨i1, i2, i3⟩ := glm_from n ms (mulL q [1, lc n m]) (mulL_tr _ _) (fun e => by rw [e] at hl; simp at hl)
  refine ⟨i1, by rw [List.foldl_cons, i2, hl, List.length_cons]; omega, fun x => ?_⟩
  rw [List.foldl_cons, i3 x, ev_mulL, ev_two, loc_cons, tms_assoc]
theorem glm_len (n : Nat) (ms : List Nat) : (glm n ms).length = ms.length + 1 := by
 have := (glm_from n ms [1] (Tr.snoc one_ne []) (by simp)).2.1
 unfold glm
 rw [this]
 simp
 omega
theorem ev_glm (n : Nat) (ms : List Nat) (x : R) : ev (glm n ms) x = ev (loc n ms) x := by
 have := (glm_from n ms [1] (Tr.snoc one_ne []) (by simp)).2.2 x
 unfold glm
 rw [this, ev_one, one_tms]
theorem nat_take (ms : List Nat) (k : Nat) (h : k < ms.length) : ms.take (k + 1) = ms.take k ++ [ms.getD k 0] := by
 rw [List.take_succ_eq_append_getElem h]
 simp [List.getD_eq_getElem?_getD, List.getElem?_eq_getElem h]
theorem nat_mem (ms : List Nat) (j : Nat) (h : j < ms.length) : ms.getD j 0 ∈ ms := by
 rw [List.getD_eq_getElem?_getD, List.getElem?_eq_getElem h]
 exact List.getElem_mem _
theorem cast_get (ms : List Nat) (j : Nat) (h : j < ms.length) : (ms.map fun (i : Nat) => (i : Int)).getD j 0 = ((ms.getD j 0 : Nat) : Int) := by
 simp [List.getD_eq_getElem?_getD, List.getElem?_eq_getElem h]
set_option maxHeartbeats 2000000 in
theorem locator_own {A : Option Addr} {m c n : Nat} {ms : List Nat} {w : World} (h : IsInts w A c (ms.map fun (i : Nat) => (i : Int))) (hl : ms.length = m) (hm : m ≤ 90) (hn : n ≤ 1000) (hlt : ∀ i ∈ ms, i < n) :
  Calls Tryz.prog 173 #[.slice A m c, .int .i64 (n : Int)] w (Gives w (glm n ms)) := by
 have hsh := Lib.hid h
 have hlh := Lib.hid hl
 have hlth := Lib.hid hlt
 have hb0 := mb w (.cells #[.int .u8 1] 5)
 have hsl0 := IsSl.made w 5 [1#8] #[.int .u8 1] _ 1 rfl rfl rfl (by decide)
 have hsl0 := Lib.hid (show IsSl (w.alloc (.cells #[.int .u8 1] 5)) (some ⟨w.heap.size, 0, none⟩) 1 (glm n (ms.take 0)) from by rw [List.take_zero]; exact hsl0)
 clear h hl hlt
 go_enter Tryz.func173, Tryz.ntmps173
 go_wp2
 go_loopw [5, 13] (fun v i wr => ∃ (k : Nat) (A' : Option Addr) (c' : Nat), k ≤ m ∧ i = .int .i64 k ∧ v = .slice A' (k + 1) c' ∧ Hid (IsSl wr A' c' (glm n (ms.take k))) ∧ Below w.heap.size w wr) (fun _ i _ => m - (intOf i).toNat)
 case atStart => exact ⟨0, _, 1, Nat.zero_le _, rfl, rfl, hsl0, hb0⟩
 case round =>
  clear hsl0 hb0
  obtain ⟨k, A', c', hk, rfl, rfl, hg, hb⟩ := hrel
  by_cases hlt : k < m
  ·have hkl : k < ms.length := by rw [hlh.out]; exact hlt
   obtain ⟨b', o, rfl, hbl, hc⟩ := (hsh.out.below hb).read k (by rw [List.length_map]; exact hkl)
   rw [cast_get ms k hkl] at hc
   have htk := nat_take ms k hkl
   have hYn := hlth.out _ (nat_mem ms k hkl)
   obtain ⟨Y, hY⟩ : ∃ Y, ms.getD k 0 = Y := ⟨_, rfl⟩
   rw [hY] at hc htk hYn
   have hst := glm_snoc n (ms.take k) Y
   rw [← htk] at hst
   have hlk : (glm n (ms.take k)).length = k + 1 := by rw [glm_len, List.length_take, Nat.min_eq_left (by omega)]
   have hlk2 : (glm n (ms.take (k + 1))).length = k + 1 + 1 := by rw [glm_len, List.length_take, Nat.min_eq_left (by omega)]
   have cR := Lib.hid (root_own wr hn hYn)
   have cI := fun W => inv_own (rt n Y) W
   rw [rt_iv, show (!(rt n Y == 0#8)) = true by rw [show (rt n Y == 0#8) = false from beq_eq_false_iff_ne.2 (rt_ne n Y)]; rfl] at cI
   have cI := Lib.hid cI
   obtain ⟨X, hX⟩ : ∃ X, lc n Y = X := ⟨_, rfl⟩
   rw [hX] at hst cI
   have hst := Lib.hid (show glm n (ms.take (k + 1)) = mulL (glm n (ms.take k)) [1#8, X] from hst)
   have hlk := Lib.hid hlk
   have hlk2 := Lib.hid hlk2
   have d0 : (k : Int) < (m : Int) := by omega
   have d1 : decide (k < m) = true := decide_eq_true hlt
   have k0 : (0 : Int) ≤ (k : Int) := by omega
   clear hY htk hX hkl hYn
   go_wp2_with fail
   refine cR.out.mono ?_
   rintro e w1 ⟨rfl, hb1⟩
   clear cR
   go_wp2_with fail
   with_reducible refine (cI.out _).mono ?_
   rintro e w2 ⟨rfl, hb2⟩
   clear cI
   have hbb := chain hb1 hb2
   have hb3 := chain hb hbb
   have hg2 := hg.out.below hbb
   clear hb hb1 hb2 hbb hg
   have hlit := IsSl.made w2 5 [1#8, X] #[.int .u8 1, bv X] _ 2 rfl rfl rfl (by decide)
   have hbl := mb w2 (.cells #[.int .u8 1, bv X] 5)
   have cM := mulP_own (hg2.below hbl) hlit (by rw [hlk.out]; simp; omega)
   have hb4 := chain hb3 hbl
   rw [← hst.out, hlk.out, show [1#8, X].length = 2 from rfl] at cM
   have cM := Lib.hid cM
   clear hg2 hlit hbl hb3 hst hlk
   go_wp2_with fail
   with_reducible refine cM.out.mono ?_
   rintro e w3 ⟨A2, c2, rfl, hs2, hb5⟩
   have hb6 := chain hb4 hb5
   have hs2 := Lib.hid hs2
   rw [hlk2.out]
   clear hb4 hb5 cM hlk2
   go_wp2
   go_roundw
   case rel => exact ⟨k + 1, A2, c2, by omega, by go_num, rfl, hs2, hb6⟩
   case measure => simp [intOf]; omega
  ·have hke : k = m := by omega
   have d0 : ¬ (k : Int) < (m : Int) := by omega
   have d1 : decide (k < m) = false := decide_eq_false hlt
   rw [hke, List.take_of_length_le (by rw [hlh.out]; exact Nat.le_refl _)] at hg
   rw [hke]
   have hgl := Lib.hid (show (glm n ms).length = m + 1 by rw [glm_len, hlh.out])
   go_wp2
   go_ret
   exact ⟨A', c', by rw [hgl.out]; rfl, hg.out, hb⟩
end G8
namespace G8
open G5
open G7
open G6 (mb rs rs_len rs_get IsSl Gives mulL ev mulL_tr mulL_len Tr trim addL lenOf mulP_own addP_own div1_own Div1 Dvd one_ne)
open Go.RowKit Mem

structure Sol (p s : Nat) (T F E : List R) : Prop where
 ex : ∃ D P, Eu p T 80 D E F P ∧ (p + s + 2 ≤ 2 * D.length ∨ D = xp p)
 fin : 2 * E.length ≤ p + s + 1
set_option maxHeartbeats 4000000 in
theorem solve_own {A B : Option Addr} {c d p s L : Nat} {S Γ : List R} {w : World} (h : IsSl w A c S) (hS : S.length = p) (h' : IsSl w B d Γ) (hΓ : Γ.length = L) (hL : L = s + 1) (hp1 : 1 ≤ p) (hp : p ≤ 16) (hs : s ≤ 60) :
  Calls Tryz.prog 174 #[.slice A p c, .slice B L d] w fun e w' => ∃ (F E : List R) (A1 : Option Addr) (c1 : Nat) (A2 : Option Addr) (c2 : Nat), Sol p s (mulL S Γ) F E ∧
   e = .returned (.tuple #[.slice A1 F.length c1, .slice A2 E.length c2]) ∧ IsSl w' A1 c1 F ∧ IsSl w' A2 c2 E ∧ Below w.heap.size w w' := by
 have cP := Lib.hid (power_gives p w (by omega))
 have hTl : (mulL S Γ).length ≤ 80 := by have := mulL_len S Γ; omega
 have hst := Eu.start (p := p) (N := 80) (T := mulL S Γ) (mulL_tr _ _) hTl (by omega)
 have cM := fun (W : World) (k : Below w.heap.size w W) => mulP_own (h.below k) (h'.below k) (by omega)
 rw [hS, hΓ] at cM
 obtain ⟨T, hT⟩ : ∃ T, mulL S Γ = T := ⟨_, rfl⟩
 rw [hT] at cM hst hTl ⊢
 have hst := Lib.hid hst
 have cM := Lib.hid cM
 have hxl := Lib.hid (xp_len p)
 have e1 : (L : Int) - 1 = (s : Int) := by omega
 have hLb : L ≤ 61 := by omega
 have hLh := Lib.hid hL
 clear h h' hS hΓ hT hL
 go_enter Tryz.func174, Tryz.ntmps174
 go_wp2_with fail
 refine cP.out.mono ?_
 rintro e w1 ⟨A1, c1, rfl, hs1, hb1⟩
 have cM := Lib.hid (cM.out w1 hb1)
 rw [hxl.out]
 clear cP
 go_wp2_with fail
 refine cM.out.mono ?_
 rintro e w2 ⟨A2, c2, rfl, hs2, hb2⟩
 have hs1 := hs1.below hb2
 have hb3 := chain hb1 hb2
 have m1 := mb w2 (.cells #[] 5)
 have m2 := mb (w2.alloc (.cells #[] 5)) (.cells #[.int .u8 1] 5)
 have l1 := IsSl.made w2 5 [] #[] _ 0 rfl rfl rfl (by decide)
 have l2 := IsSl.made (w2.alloc (.cells #[] 5)) 5 [1#8] #[.int .u8 1] (w2.heap.size + 1) 1 rfl (by simp) rfl (by decide)
 have l1 := Lib.hid (l1.below m2)
 have l2 := Lib.hid l2
 have hs1 := Lib.hid ((hs1.below m1).below m2)
 have hs2 := Lib.hid ((hs2.below m1).below m2)
 have hb4 := chain (chain hb3 m1) m2
 clear hb1 hb2 hb3 m1 m2 cM
 obtain ⟨tl, htl⟩ : ∃ tl, T.length = tl := ⟨_, rfl⟩
 rw [htl] at hTl ⊢
 have htlh := Lib.hid htl
 clear htl
 go_wp2
 go_loopw [8, 9, 10, 11] (fun vD vE vP vF wr => ∃ (D E F P : List R) (a1 : Option Addr) (k1 : Nat) (a2 : Option Addr) (k2 : Nat) (a3 : Option Addr) (k3 : Nat) (a4 : Option Addr) (k4 : Nat) (nD nE nP nF : Nat),
  vD = .slice a1 nD k1 ∧ vE = .slice a2 nE k2 ∧ vP = .slice a3 nP k3 ∧ vF = .slice a4 nF k4 ∧ Hid (D.length = nD) ∧ Hid (E.length = nE) ∧ Hid (P.length = nP) ∧ Hid (F.length = nF) ∧
  Hid (Eu p T 80 D E F P) ∧ Hid (p + s + 2 ≤ 2 * D.length ∨ D = xp p) ∧ Hid (IsSl wr a1 k1 D) ∧ Hid (IsSl wr a2 k2 E) ∧ Hid (IsSl wr a3 k3 P) ∧ Hid (IsSl wr a4 k4 F) ∧ Below w.heap.size w wr) (fun _ vE _ _ _ => lenOf vE)
 case atStart => exact ⟨xp p, T, [1], [], _, _, _, _, _, _, _, _, _, _, _, _, rfl, rfl, rfl, rfl, hxl, htlh, Lib.hid rfl, Lib.hid rfl, hst, Lib.hid (.inr rfl), hs1, hs2, l1, l2, hb4⟩
 case round =>
  clear hst hs1 hs2 l1 l2 hb4 htlh hxl
  obtain ⟨D, E, F, P, a1, k1, a2, k2, a3, k3, a4, k4, nD, nE, nP, nF, rfl, rfl, rfl, rfl, hnD, hnE, hnP, hnF, heu, hor, sD, sE, sP, sF, hb⟩ := hrel
  have bE : nE ≤ 80 := by rw [← hnE.out]; exact heu.out.lE
  have bD : nD ≤ 80 := by rw [← hnD.out]; exact heu.out.lD
  have bP : nP ≤ 80 := by
   rw [← hnP.out]
   by_cases e : P = []
   ·rw [e]; simp
   ·have := heu.out.lP e; omega
  have bF : nF ≤ 80 := by
   rw [← hnF.out]
   by_cases e : F = []
   ·rw [e]; simp
   ·have := heu.out.lF e; omega
  obtain ⟨z, hz⟩ : ∃ z : Int, (nE : Int) - 1 = z := ⟨_, rfl⟩
  have z1 : -1 ≤ z := by omega
  have z2 : z ≤ 79 := by omega
  have hzh := Lib.hid hz
  by_cases hlt : p + s + 2 ≤ 2 * nE
  ·have d1 : (p : Int) + (s : Int) ≤ 2 * z := by omega
   have hE0 : trim E ≠ [] := fun e => by
    have := heu.out.tE
    rw [this.eq] at e
    have := hnE.out
    rw [e] at this
    simp at this
    omega
   have cD := div1_own sD.out sE.out (by rw [hnD.out]; omega) (by rw [hnE.out]; omega) hE0
   rw [hnD.out, hnE.out] at cD
   have cD := Lib.hid cD
   clear hE0
   go_wp2_with fail
   refine cD.out.mono ?_
   rintro e w3 ⟨q, r, a5, k5, a6, k6, hdv, rfl, sq, sr', hb5⟩
   obtain ⟨heu2, hrl⟩ := heu.out.step (by decide) hdv
   have hql := hdv.ld
   rw [hnD.out] at hql
   have sE := Lib.hid (sE.out.below hb5)
   have sP := Lib.hid (sP.out.below hb5)
   have sF := Lib.hid (sF.out.below hb5)
   have hb6 := chain hb hb5
   obtain ⟨nq, hnq⟩ : ∃ nq, q.length = nq := ⟨_, rfl⟩
   obtain ⟨nr, hnr⟩ : ∃ nr, r.length = nr := ⟨_, rfl⟩
   rw [hnq] at hql
   rw [hnr, hnE.out] at hrl
   have cM := mulP_own sq sF.out (by rw [hnq, hnF.out]; omega)
   rw [hnq, hnF.out] at cM
   have cM := Lib.hid cM
   have hnqh := Lib.hid hnq
   have hnrh := Lib.hid hnr
   have heu2 := Lib.hid heu2
   have sr' := Lib.hid sr'
   rw [hnq, hnr]
   clear cD hb5 hb hdv sq hnq hnr
   go_wp2_with fail
   refine cM.out.mono ?_
   rintro e w4 ⟨a7, k7, rfl, s7, hb7⟩
   have m7 := mulL_len q F
   rw [hnqh.out, hnF.out] at m7
   have cA := addP_own (sP.out.below hb7) s7 (by rw [hnP.out]; omega) (by omega)
   rw [hnP.out] at cA
   have sE := Lib.hid (sE.out.below hb7)
   have sF := Lib.hid (sF.out.below hb7)
   have sr' := Lib.hid (sr'.out.below hb7)
   have hb8 := chain hb6 hb7
   have cA := Lib.hid cA
   obtain ⟨n7, hn7⟩ : ∃ n7, (mulL q F).length = n7 := ⟨_, rfl⟩
   rw [hn7] at cA ⊢
   clear cM hb6 hb7 s7 hn7 m7
   go_wp2_with fail
   refine cA.out.mono ?_
   rintro e w5 ⟨a9, k9, rfl, s9, hb9⟩
   have sE := Lib.hid (sE.out.below hb9)
   have sF := Lib.hid (sF.out.below hb9)
   have sr' := Lib.hid (sr'.out.below hb9)
   have s9 := Lib.hid s9
   have hb10 := chain hb8 hb9
   have hor2 := Lib.hid (show p + s + 2 ≤ 2 * E.length ∨ E = xp p from .inl (by rw [hnE.out]; exact hlt))
   clear cA hb8 hb9 hor sD sP
   go_wp2
   go_roundw
   case rel => exact ⟨E, r, addL P (mulL q F), F, _, _, _, _, _, _, _, _, _, _, _, _, rfl, rfl, rfl, rfl, hnE, hnrh, hnF, Lib.hid rfl, heu2, hor2, sE, sr', sF, s9, hb10⟩
   case measure => simp [lenOf]; omega
  ·have d1 : ¬ (p : Int) + (s : Int) ≤ 2 * z := by omega
   have hsol : Sol p s T F E := ⟨⟨D, P, heu.out, hor.out⟩, by rw [hnE.out]; omega⟩
   have hsol := Lib.hid hsol
   go_wp2
   go_ret2
   exact ⟨F, E, hsol.out, _, _, _, _, by rw [hnF.out, hnE.out]; rfl, sF.out, sE.out, hb⟩
end G8

namespace G8
open G5
open G7
open G6 (mb rs rs_len rs_get IsSl Gives ev eval_own)
open Go.RowKit Mem

def corr (Ψ E Q : List R) (x : R) : R := if ev Ψ x = 0 then G5.dv (ev E x) (tms x (ev Q x)) else 0
set_option maxHeartbeats 4000000 in
theorem corr_own {s : ByteArray} {n i b1 b2 b3 b4 n2 n3 n4 c2 c3 c4 : Nat} {A2 A3 A4 : Option Addr} {Ψ E Q : List R} {w : World} (hs : s.size = n) (hn : n ≤ 1000) (hi : i < n)
  (h1 : w.cell? ⟨b1, 0, none⟩ = some (.string s)) (h2 : w.cell? ⟨b2, 0, none⟩ = some (.slice A2 n2 c2)) (h3 : w.cell? ⟨b3, 0, none⟩ = some (.slice A3 n3 c3)) (h4 : w.cell? ⟨b4, 0, none⟩ = some (.slice A4 n4 c4))
  (hΨ : IsSl w A2 c2 Ψ) (hE : IsSl w A3 c3 E) (hQ : IsSl w A4 c4 Q) (l2 : Ψ.length = n2) (l3 : E.length = n3) (l4 : Q.length = n4) (g2 : n2 ≤ 1000) (g3 : n3 ≤ 1000) (g4 : n4 ≤ 1000) :
  Calls Tryz.prog 176 #[.int .i64 (i : Int), .pointer (some ⟨b1, 0, none⟩), .pointer (some ⟨b2, 0, none⟩), .pointer (some ⟨b3, 0, none⟩), .pointer (some ⟨b4, 0, none⟩)] w
   fun e w' => e = .returned (bv (corr Ψ E Q (rt n i))) ∧ Below w.heap.size w w' := by
 have cR := Lib.hid (root_own w hn hi)
 obtain ⟨x, hx⟩ : ∃ x, rt n i = x := ⟨_, rfl⟩
 rw [hx] at cR ⊢
 have k2 := World.block_lt_of_cell? _ _ h2
 have k3 := World.block_lt_of_cell? _ _ h3
 have k4 := World.block_lt_of_cell? _ _ h4
 have cV := fun (W : World) (k : Below w.heap.size w W) => eval_own x (hΨ.below k) (by omega)
 have cE := fun (W : World) (k : Below w.heap.size w W) => eval_own x (hE.below k) (by omega)
 have cQ := fun (W : World) (k : Below w.heap.size w W) => eval_own x (hQ.below k) (by omega)
 rw [l2] at cV
 rw [l3] at cE
 rw [l4] at cQ
 have hcv : corr Ψ E Q x = if ev Ψ x = 0 then G5.dv (ev E x) (tms x (ev Q x)) else 0 := rfl
 obtain ⟨V, hV⟩ : ∃ V, ev Ψ x = V := ⟨_, rfl⟩
 obtain ⟨Y, hY⟩ : ∃ Y, ev E x = Y := ⟨_, rfl⟩
 obtain ⟨Z, hZ⟩ : ∃ Z, ev Q x = Z := ⟨_, rfl⟩
 rw [hV] at cV hcv
 rw [hY] at cE hcv
 rw [hZ] at cQ hcv
 have cM := fun W => mul_own x Z W
 obtain ⟨U, hU⟩ : ∃ U, tms x Z = U := ⟨_, rfl⟩
 rw [hU] at cM hcv
 have cD := fun W => div_own Y U W
 obtain ⟨D, hD⟩ : ∃ D, G5.dv Y U = D := ⟨_, rfl⟩
 rw [hD] at cD hcv
 have hcv := Lib.hid hcv
 have q2 := fun (W : World) (k : Below w.heap.size w W) => (k.cell (p := ⟨b2, 0, none⟩) k2).trans h2
 have q3 := fun (W : World) (k : Below w.heap.size w W) => (k.cell (p := ⟨b3, 0, none⟩) k3).trans h3
 have q4 := fun (W : World) (k : Below w.heap.size w W) => (k.cell (p := ⟨b4, 0, none⟩) k4).trans h4
 have q2 := Lib.hid q2
 have q3 := Lib.hid q3
 have q4 := Lib.hid q4
 have cV := Lib.hid cV
 have cE := Lib.hid cE
 have cQ := Lib.hid cQ
 have cM := Lib.hid cM
 have cD := Lib.hid cD
 clear hx hV hY hZ hU hD h2 h3 h4 hΨ hE hQ l2 l3 l4 k2 k3 k4
 go_enter Tryz.func176, Tryz.ntmps176
 go_wp2_with fail
 refine cR.out.mono ?_
 rintro e w1 ⟨rfl, hb1⟩
 have e2 := q2.out w1 hb1
 have cV1 := Lib.hid (cV.out w1 hb1)
 clear cR cV
 go_wp2_with fail
 refine cV1.out.mono ?_
 rintro e w2 ⟨rfl, nn, rfl⟩
 have hb2 := chainN hb1 nn
 obtain ⟨w2, hw2⟩ : ∃ w2, w1.drewN nn = w2 := ⟨_, rfl⟩
 rw [hw2] at hb2 ⊢
 clear hw2 e2 hb1 cV1 q2
 rcases he : (V == 0#8) with _ | _
 ·have t1 : ((V.toNat : Int) != 0) = true := by rw [G6.nz_el, he]; rfl
  have hr := Lib.hid (show corr Ψ E Q x = 0 by rw [hcv.out, if_neg (by simpa using he)])
  clear he
  go_wp2
  go_ret
  exact ⟨by rw [hr.out]; rfl, hb2⟩
 ·have t1 : ((V.toNat : Int) != 0) = false := by rw [G6.nz_el, he]; rfl
  have hr := Lib.hid (show corr Ψ E Q x = D by rw [hcv.out, if_pos (by simpa using he)])
  have keep0 := Below.refl w2.heap.size w2
  have keep1 : ∀ W, Below w2.heap.size w2 W → Below w2.heap.size w2 (World.drew W) := fun W h => chainN h 1
  have keep2 : ∀ W n, Below w2.heap.size w2 W → Below w2.heap.size w2 (World.drewN W n) := fun W n h => chainN h n
  have r3 := fun (W : World) (k : Below w2.heap.size w2 W) => q3.out W (chain hb2 k)
  have r4 := fun (W : World) (k : Below w2.heap.size w2 W) => q4.out W (chain hb2 k)
  have cE := Lib.hid (fun (W : World) (k : Below w2.heap.size w2 W) => cE.out W (chain hb2 k))
  have cQ := Lib.hid (fun (W : World) (k : Below w2.heap.size w2 W) => cQ.out W (chain hb2 k))
  obtain ⟨B, hB⟩ : ∃ B, (!(U == 0#8)) = B := ⟨_, rfl⟩
  rw [hB] at cD
  have hb2 := Lib.hid hb2
  clear he hB q3 q4
  go_wp2_with fail
  go_region_held3 (fun W => Below w2.heap.size w2 W) (first | exact keep0 | exact keep1 _ keep0 | exact keep2 _ _ keep0 | exact keep2 _ _ (keep1 _ keep0) | exact keep2 _ _ (keep2 _ _ (keep1 _ keep0)) | exact chain (keep2 _ _ (keep2 _ _ (keep1 _ keep0))) ‹_› | exact chain ‹_› ‹_› | exact keep2 _ _ ‹_› | assumption) (first | (go_at_call 169; (first | (with_reducible refine (cE.out _ (by first | exact keep1 _ keep0 | exact keep2 _ _ keep0 | exact keep2 _ _ (keep1 _ keep0) | exact keep1 _ (keep2 _ _ keep0))).mono ?_) | (with_reducible refine (cQ.out _ (by first | exact keep1 _ keep0 | exact keep2 _ _ keep0 | exact keep2 _ _ (keep1 _ keep0) | exact keep1 _ (keep2 _ _ keep0))).mono ?_)); rintro e3 w10 ⟨rfl, nn, rfl⟩) | (go_at_call 119; (with_reducible refine (cM.out _).mono ?_); rintro e4 w11 ⟨rfl, rfl⟩) | (go_at_call 178; (with_reducible refine (cD.out _).mono ?_); rintro e5 w12 ⟨rfl, hb5⟩))
  have hfin := chain hb2.out (chain (keep2 _ _ keep0) hb5)
  go_wp2
  go_ret
  exact ⟨by rw [hr.out]; rfl, hfin⟩
end G8

namespace G8
open G5
open G7
open G6 (mb rs rs_len rs_get IsSl Gives ev mulL mulL_len mulP_own der_own derL derL_len VAt.setR VAt.readR getD_set conv_sl)
open Go.RowKit Mem

def fixd (l : List R) (C : Nat → R) (k : Nat) : List R := tab l.length fun i => if i < k then l.getD i 0 ^^^ C i else l.getD i 0
theorem fixd_len (l : List R) (C : Nat → R) (k : Nat) : (fixd l C k).length = l.length := tab_len _ _
theorem fixd_zero (l : List R) (C : Nat → R) : fixd l C 0 = l := (tab_eq rfl fun i _ => by rw [if_neg (by omega)]).symm
theorem fixd_at {l : List R} {C : Nat → R} {k : Nat} (h : k < l.length) : (fixd l C k).getD k 0 = l.getD k 0 := by
 unfold fixd
 rw [tab_get _ _ _ h, if_neg (by omega)]
theorem fixd_step {l : List R} {C : Nat → R} {k : Nat} (h : k < l.length) : (fixd l C k).set k (l.getD k 0 ^^^ C k) = fixd l C (k + 1) := by
 unfold fixd
 rw [tab_set _ _ _ _ h]
 refine tab_congr fun i hi => ?_
 by_cases e : i = k
 ·subst e
  rw [if_pos rfl, if_pos (by omega)]
 ·rw [if_neg e]
  by_cases e2 : i < k
  ·rw [if_pos e2, if_pos (by omega)]
  ·rw [if_neg e2, if_neg (by omega)]
theorem Sol.flen {p s : Nat} {T F E : List R} (h : Sol p s T F E) (hp : p ≤ 16) : F.length ≤ 18 ∧ E.length ≤ 80 := by
 obtain ⟨⟨D, P, he, _⟩, _⟩ := h
 have := he.lE
 refine ⟨?_, this⟩
 by_cases e : F = []
 ·rw [e]; simp
 ·have := he.lF e
  omega
set_option maxHeartbeats 8000000 in
theorem corrected_own {A B : Option Addr} {c d p m n : Nat} {S : List R} {ms : List Nat} {s : ByteArray} {w : World} (h : IsSl w A c S) (hS : S.length = p) (h' : IsInts w B d (ms.map fun (i : Nat) => (i : Int))) (hm : ms.length = m)
  (hp1 : 1 ≤ p) (hp : p ≤ 16) (hm2 : m ≤ 60) (hn : s.size = n) (hn2 : n ≤ 60) (hlt : ∀ i ∈ ms, i < n) :
  Calls Tryz.prog 133 #[.string s, .slice A p c, .slice B m d] w fun e w' => ∃ F E : List R, Sol p m (mulL S (glm n ms)) F E ∧
   e = .returned (.string (str (fixd (el s) (fun i => corr (mulL (glm n ms) F) E (derL (mulL (glm n ms) F)) (rt n i)) n))) ∧ Below w.heap.size w w' := by
 have hmf : ∀ (fn : Fn) (first cap : Array Value) (w : World), (Instr.makeFunc fn first cap).run Tryz.prog w = .ok (.func fn first cap) w := fun _ _ _ _ => rfl
 have hbA := mb w (.cells #[.string s] 9)
 have hc1 : (w.alloc (.cells #[.string s] 9)).cell? ⟨w.heap.size, 0, none⟩ = some (.string s) := by simp
 have cL := locator_own (h'.below hbA) hm (by omega) (show n ≤ 1000 by omega) hlt
 have hgl := glm_len n ms
 rw [hm] at hgl
 obtain ⟨W1, hW1⟩ : ∃ W1, w.alloc (.cells #[.string s] 9) = W1 := ⟨_, rfl⟩
 obtain ⟨Γ, hΓ⟩ : ∃ Γ, glm n ms = Γ := ⟨_, rfl⟩
 rw [hΓ] at cL hgl ⊢
 rw [hW1] at cL hbA hc1
 have hB1 : w.heap.size < W1.heap.size := by rw [← hW1]; simp
 obtain ⟨b1, hb1⟩ : ∃ b1, w.heap.size = b1 := ⟨_, rfl⟩
 rw [hb1] at hB1 hc1
 have hsl := Lib.hid (h.below hbA)
 have hW1h := Lib.hid hW1
 have hc1 := Lib.hid hc1
 have hB1 := Lib.hid hB1
 have hSh := Lib.hid hS
 have cL := Lib.hid cL
 have hglh := Lib.hid hgl
 have hb1h := Lib.hid hb1
 clear h h' hm hlt hS hW1 hΓ hgl hb1
 go_enter Tryz.func133, Tryz.ntmps133
 go_wp2_with fail
 rw [hW1h.out, hb1h.out]
 refine cL.out.mono ?_
 rintro e w2 ⟨A2, c2, rfl, hs2, hb2⟩
 have hsl2 := hsl.out.below hb2
 have cS := solve_own hsl2 hSh.out hs2 hglh.out rfl hp1 hp hm2
 rw [hglh.out]
 have hs2 := Lib.hid hs2
 have cS := Lib.hid cS
 have hb2 := Lib.hid hb2
 clear hsl hsl2 cL hmf
 have hmf : ∀ (fn : Fn) (first cap : Array Value) (w : World), (Instr.makeFunc fn first cap).run Tryz.prog w = .ok (.func fn first cap) w := fun _ _ _ _ => rfl
 go_wp2_with fail
 refine cS.out.mono ?_
 rintro e w3 ⟨F, E, A3, c3, A4, c4, hsol, rfl, hs3, hs4, hb3⟩
 clear cS
 obtain ⟨fl, el'⟩ := hsol.flen hp
 have hsol := Lib.hid hsol
 obtain ⟨nF, hnF⟩ : ∃ nF, F.length = nF := ⟨_, rfl⟩
 obtain ⟨nE, hnE⟩ : ∃ nE, E.length = nE := ⟨_, rfl⟩
 have m3 := mb w3 (.cells #[.slice A4 nE c4] 53)
 have hc3 : (w3.alloc (.cells #[.slice A4 nE c4] 53)).cell? ⟨w3.heap.size, 0, none⟩ = some (.slice A4 nE c4) := by simp
 have hB3 : w3.heap.size < (w3.alloc (.cells #[.slice A4 nE c4] 53)).heap.size := by simp
 obtain ⟨W3, hW3⟩ : ∃ W3, w3.alloc (.cells #[.slice A4 nE c4] 53) = W3 := ⟨_, rfl⟩
 obtain ⟨b3, hb3'⟩ : ∃ b3, w3.heap.size = b3 := ⟨_, rfl⟩
 rw [hW3] at m3 hc3 hB3
 rw [hb3'] at hc3 hB3
 have k3 := chain hb3 m3
 have hs2 := hs2.out.below k3
 have hs3 := hs3.below m3
 have hs4 := Lib.hid (hs4.below m3)
 have hB2 := chain hbA (chain hb2.out k3)
 have hc1 := Lib.hid (((chain hb2.out k3).cell (p := ⟨b1, 0, none⟩) hB1.out).trans hc1.out)
 have hB1 := Lib.hid (Nat.lt_of_lt_of_le hB1.out (chain hb2.out k3).size)
 have cM := mulP_own hs2 hs3 (by rw [hglh.out]; omega)
 rw [hglh.out, hnF] at cM
 rw [hnF, hnE]
 have hW3h := Lib.hid hW3
 have hb3h := Lib.hid hb3'
 have hnEh := Lib.hid hnE
 have hc3 := Lib.hid hc3
 have hB3 := Lib.hid hB3
 have hnFl : nF ≤ 18 := by omega
 have hnEl : nE ≤ 80 := by omega
 have hΨl := mulL_len Γ F
 rw [hglh.out, hnF] at hΨl
 obtain ⟨Ψ, hΨ⟩ : ∃ Ψ, mulL Γ F = Ψ := ⟨_, rfl⟩
 rw [hΨ] at cM hΨl
 obtain ⟨nΨ, hnΨ⟩ : ∃ nΨ, Ψ.length = nΨ := ⟨_, rfl⟩
 rw [hnΨ] at hΨl
 have cM := Lib.hid cM
 have hΨh := Lib.hid hΨ
 have hnΨh := Lib.hid hnΨ
 clear hbA hb2 hb3 m3 k3 hs2 hs3 hΨ hnΨ hW3 hb3' hnE hnF fl el'
 go_wp2_with fail
 rw [hW3h.out, hb3h.out]
 refine cM.out.mono ?_
 rintro e w4 ⟨A5, c5, rfl, hs5, hb4⟩
 rw [hnΨh.out]
 have m4 := mb w4 (.cells #[.slice A5 nΨ c5] 53)
 have hc2 : (w4.alloc (.cells #[.slice A5 nΨ c5] 53)).cell? ⟨w4.heap.size, 0, none⟩ = some (.slice A5 nΨ c5) := by simp
 have hB2' : w4.heap.size < (w4.alloc (.cells #[.slice A5 nΨ c5] 53)).heap.size := by simp
 obtain ⟨W4, hW4⟩ : ∃ W4, w4.alloc (.cells #[.slice A5 nΨ c5] 53) = W4 := ⟨_, rfl⟩
 obtain ⟨b2, hb2'⟩ : ∃ b2, w4.heap.size = b2 := ⟨_, rfl⟩
 rw [hW4] at m4 hc2 hB2'
 rw [hb2'] at hc2 hB2'
 have k4 := chain hb4 m4
 have hs5 := Lib.hid (hs5.below m4)
 have hs4 := Lib.hid (hs4.out.below k4)
 have hB2 := chain hB2 k4
 have hc1 := Lib.hid ((k4.cell (p := ⟨b1, 0, none⟩) hB1.out).trans hc1.out)
 have hc3 := Lib.hid ((k4.cell (p := ⟨b3, 0, none⟩) hB3.out).trans hc3.out)
 have hB1 := Lib.hid (Nat.lt_of_lt_of_le hB1.out k4.size)
 have hB3 := Lib.hid (Nat.lt_of_lt_of_le hB3.out k4.size)
 have cD := der_own hs5.out (by rw [hnΨh.out]; omega)
 rw [hnΨh.out] at cD
 have hQl := derL_len Ψ
 rw [hnΨh.out] at hQl
 obtain ⟨Q, hQ⟩ : ∃ Q, derL Ψ = Q := ⟨_, rfl⟩
 rw [hQ] at cD hQl
 obtain ⟨nQ, hnQ⟩ : ∃ nQ, Q.length = nQ := ⟨_, rfl⟩
 rw [hnQ] at hQl
 have cD := Lib.hid cD
 have hQh := Lib.hid hQ
 have hnQh := Lib.hid hnQ
 have hW4h := Lib.hid hW4
 have hb2h := Lib.hid hb2'
 have hc2 := Lib.hid hc2
 have hB2' := Lib.hid hB2'
 clear hb4 m4 k4 hQ hnQ hW4 hb2' cM
 go_wp2_with fail
 rw [hW4h.out, hb2h.out]
 refine cD.out.mono ?_
 rintro e w5 ⟨A6, c6, rfl, hs6, hb5⟩
 rw [hnQh.out]
 have m5 := mb w5 (.cells #[.slice A6 nQ c6] 53)
 have hc4 : (w5.alloc (.cells #[.slice A6 nQ c6] 53)).cell? ⟨w5.heap.size, 0, none⟩ = some (.slice A6 nQ c6) := by simp
 have hB4 : w5.heap.size < (w5.alloc (.cells #[.slice A6 nQ c6] 53)).heap.size := by simp
 obtain ⟨W5, hW5⟩ : ∃ W5, w5.alloc (.cells #[.slice A6 nQ c6] 53) = W5 := ⟨_, rfl⟩
 obtain ⟨b4, hb4'⟩ : ∃ b4, w5.heap.size = b4 := ⟨_, rfl⟩
 rw [hW5] at m5 hc4 hB4
 rw [hb4'] at hc4 hB4
 have k5 := chain hb5 m5
 have hs6 := hs6.below m5
 have hs5 := hs5.out.below k5
 have hs4 := hs4.out.below k5
 have hB2 := chain hB2 k5
 have hc1 := (k5.cell (p := ⟨b1, 0, none⟩) hB1.out).trans hc1.out
 have hc2 := (k5.cell (p := ⟨b2, 0, none⟩) hB2'.out).trans hc2.out
 have hc3 := (k5.cell (p := ⟨b3, 0, none⟩) hB3.out).trans hc3.out
 have g1 := Nat.lt_of_lt_of_le hB1.out k5.size
 have g2 := Nat.lt_of_lt_of_le hB2'.out k5.size
 have g3 := Nat.lt_of_lt_of_le hB3.out k5.size
 have cC := fun (i : Nat) (hi : i < n) (W : World) (k : Below W5.heap.size W5 W) => corr_own (i := i) hn (by omega) hi ((k.cell (p := ⟨b1, 0, none⟩) g1).trans hc1) ((k.cell (p := ⟨b2, 0, none⟩) g2).trans hc2) ((k.cell (p := ⟨b3, 0, none⟩) g3).trans hc3) ((k.cell (p := ⟨b4, 0, none⟩) hB4).trans hc4)
  (hs5.below k) (hs4.below k) (hs6.below k) hnΨh.out hnEh.out hnQh.out (by omega) (by omega) (by omega)
 obtain ⟨C, hC⟩ : ∃ C, (fun i => corr Ψ E Q (rt n i)) = C := ⟨_, rfl⟩
 have hCi : ∀ i, corr Ψ E Q (rt n i) = C i := fun i => by rw [← hC]
 have cC := fun (i : Nat) (hi : i < n) (W : World) (k : Below W5.heap.size W5 W) => (show Calls Tryz.prog 176 #[.int .i64 (i : Int), .pointer (some ⟨b1, 0, none⟩), .pointer (some ⟨b2, 0, none⟩), .pointer (some ⟨b3, 0, none⟩), .pointer (some ⟨b4, 0, none⟩)] W
   fun e w' => e = .returned (bv (C i)) ∧ Below W.heap.size W w' by rw [← hCi]; exact cC i hi W k)
 obtain ⟨cap, W6, hcap, hcap2, hcv, hat6, hg6, hb6⟩ := bytes_row W5 s (by omega)
 obtain ⟨G, hG⟩ : ∃ G, W5.heap.size = G := ⟨_, rfl⟩
 have hc6 := (hb6.cell (p := ⟨b1, 0, none⟩) g1).trans hc1
 have hG1 : b1 < G := by omega
 rw [hG] at hat6 hg6 hb6 hcv
 rw [hn] at hcap hcv
 have hel : (el s).length = n := by rw [el_len, hn]
 have hG' := Lib.hid hG
 have hres := Lib.hid (show mulL Γ F = Ψ from hΨh.out)
 have hC' := Lib.hid (show (fun i => corr (mulL Γ F) E (derL (mulL Γ F)) (rt n i)) = C by rw [hΨh.out, hQh.out]; exact hC)
 have cC := Lib.hid cC
 have hB2 := Lib.hid hB2
 have hW5h := Lib.hid hW5
 have hb4h := Lib.hid hb4'
 have hatr := Lib.hid (show VAt W6 G (rs (fixd (el s) C 0)) by rw [fixd_zero]; exact hat6)
 have hg6 := Lib.hid hg6
 have helh := Lib.hid hel
 have hc1h := Lib.hid hc1
 clear hb5 m5 k5 hs6 hs5 hs4 hc2 hc3 hc4 hC hCi hat6 hel hW5 hb4' g1 g2 g3 hB4 hG cD
 have hsz : (s.size : Int) = (n : Int) := by rw [hn]
 have hmf : ∀ (fn : Fn) (first cap : Array Value) (w : World), (Instr.makeFunc fn first cap).run Tryz.prog w = .ok (.func fn first cap) w := fun _ _ _ _ => rfl
 go_upto_region 6 with (fail)
 rw [hW5h.out, hb4h.out]
 clear hmf
 go_wp2
 have hb6 := Lib.hid (show Below W5.heap.size W5 W6 by rw [hG'.out]; exact hb6)
 clear hcv hc6
 go_loopw [35] (fun a wr => ∃ k : Nat, k ≤ n ∧ a = .int .i64 k ∧ Hid (VAt wr G (rs (fixd (el s) C k))) ∧ Hid (G < wr.heap.size) ∧ Hid (Below W5.heap.size W5 wr)) (fun a _ => n - (intOf a).toNat)
 case atStart => exact ⟨0, Nat.zero_le _, rfl, hatr, hg6, hb6⟩
 case round =>
  clear hatr hg6 hb6
  obtain ⟨k, hk, rfl, hat, hgl, hb⟩ := hrel
  by_cases hlt : k < n
  ·have hkl : k < (el s).length := by rw [helh.out]; exact hlt
   have hst := fixd_step (C := C) hkl
   have hrow : ∀ W, Below wr.heap.size wr W → W.cell? ⟨G, k, none⟩ = some (bv ((el s).getD k 0)) ∧ W.frozen? ⟨G, k, none⟩ = false := fun W h => by
    have := VAt.readR (VAt.below hat.out h hgl.out) (k := k) (by rw [fixd_len]; exact hkl)
    rwa [fixd_at hkl] at this
   obtain ⟨X, hX⟩ : ∃ X, (el s).getD k 0 = X := ⟨_, rfl⟩
   rw [hX] at hst hrow
   have cK := fun (W : World) (h : Below wr.heap.size wr W) => cC.out k hlt W (hb.out.trans (h.mono hb.out.size))
   obtain ⟨V, hV⟩ : ∃ V, C k = V := ⟨_, rfl⟩
   rw [hV] at hst cK
   have cA := fun W => (add_own X V W).mono fun _ _ ⟨a, b⟩ => And.intro a b.symm
   obtain ⟨T, hT⟩ : ∃ T, X ^^^ V = T := ⟨_, rfl⟩
   rw [hT] at hst cA
   have hfinal : ∀ W, Below wr.heap.size wr W → Hid (VAt (W.setCell ⟨G, k, none⟩ (bv T)) G (rs (fixd (el s) C (k + 1)))) ∧ Hid (G < (W.setCell ⟨G, k, none⟩ (bv T)).heap.size) ∧ Hid (Below W5.heap.size W5 (W.setCell ⟨G, k, none⟩ (bv T))) := fun W h => by
    have h1 := VAt.setR (VAt.below hat.out h hgl.out) (k := k) (by rw [fixd_len]; exact hkl) T
    rw [hst] at h1
    exact ⟨Lib.hid h1, Lib.hid (by simpa using Nat.lt_of_lt_of_le hgl.out h.size), Lib.hid ((hb.out.trans (h.mono hb.out.size)).setCell (p := ⟨G, k, none⟩) (by rw [hG'.out]; exact Nat.le_refl _) (bv T))⟩
   have cK := Lib.hid cK
   have cA := Lib.hid cA
   have hfinal := Lib.hid hfinal
   have hrow := Lib.hid hrow
   have d1 : (k : Int) < (n : Int) := by omega
   have d2 : decide (k < n) = true := decide_eq_true hlt
   have k0 : (0 : Int) ≤ (k : Int) := by omega
   have keep0 := Below.refl wr.heap.size wr
   have keep1 : Below wr.heap.size wr wr.drew := chainN keep0 1
   obtain ⟨hn1, hf1⟩ := hrow.out _ keep1
   clear hkl hst hX hV hT
   go_wp2_with fail
   go_region_with (first | (go_at_call 176; (with_reducible refine (cK.out _ keep1).mono ?_); rintro e9 w9 ⟨rfl, hb9⟩; obtain ⟨hn9, hf9⟩ := hrow.out _ (chain keep1 hb9)) | (go_at_call 118; (with_reducible refine (cA.out _).mono ?_); rintro e8 w8 ⟨rfl, rfl⟩))
   all_goals
    obtain ⟨f1, f2, f3⟩ := hfinal.out _ (chain keep1 hb9)
    go_wp2
    go_roundw
    case rel => exact ⟨k + 1, by omega, by go_num, f1, f2, f3⟩
    case measure => simp [intOf]; omega
  ·have hke : k = n := by omega
   rw [hke] at hat
   have d1 : ¬ (k : Int) < (n : Int) := by omega
   have d2 : decide (k < n) = false := decide_eq_false hlt
   have hlen : (fixd (el s) C n).length = n := by rw [fixd_len, helh.out]
   have hsl := sl_at (c := cap) hat.out (by rw [hlen]; exact hcap) hcap2 hgl.out
   have hconv := conv_sl (P := Tryz.prog) (dst := 9) Tryz.underlying53 Tryz.underlying5 Tryz.underlying9 hsl hlen
   rw [show (⟨(G6.u8s (fixd (el s) C n)).toArray⟩ : ByteArray) = str (fixd (el s) C n) from rfl] at hconv
   obtain ⟨Z, hZ⟩ : ∃ Z, str (fixd (el s) C n) = Z := ⟨_, rfl⟩
   rw [hZ] at hconv
   have hZh := Lib.hid hZ
   have hBB := hB2.out.trans (hb.out.mono hB2.out.size)
   clear hsl hlen hat hgl hb hke hZ
   go_wp2
   go_ret
   exact ⟨F, E, hsol.out, by rw [hC'.out, hZh.out]; rfl, hBB⟩
end G8
end Go.Proofs.YtiodkllckcpinaaGreatDoor
