/- The contracts of the landed Locate, Radius, Decode. -/
import Derived.Test.YtiodkllckcpinaaGreatDoorM14AL
import Derived.Test.YtiodkllckcpinaaGreatDoorM14AQ
set_option linter.unusedVariables false
set_option linter.unusedSimpArgs false
set_option maxRecDepth 100000
namespace Go.Proofs.YtiodkllckcpinaaGreatDoor
namespace G8
open G5
open G7
open Go.RowKit Mem

set_option maxHeartbeats 2000000 in
theorem loc_own (a b : ByteArray) (w : World) (ha : a.size ≤ 1000) (hb0 : b.size ≤ 1000) : Calls Tryz.prog 134 #[.string a, .string b] w (Loc (el a) (el b) w) := by
 by_cases hl : a.size = b.size
 ·obtain ⟨j0, hj, hy0, hy1, hy2⟩ := info_parts info_int
  obtain ⟨N, hN⟩ : ∃ N, a.size = N := ⟨_, rfl⟩
  have t1 : ((a.size : Int) != (b.size : Int)) = false := by rw [hl]; simp
  have hNh := Lib.hid hN
  have hlh := Lib.hid hl
  have hN1 : N ≤ 1000 := by omega
  have t2 : (a.size != b.size) = false := by rw [hl]; simp
  clear hl hN
  go_enter Tryz.func134, Tryz.ntmps134
  go_wp2
  go_loopw [6, 15] (fun v x wr => ∃ k n : Nat, k ≤ N ∧ n ≤ k ∧ x = .int .i64 k ∧ wr.ownsRow w.heap.size 3 1 v n (is (lk (el a) (el b) k)) ∧ Below w.heap.size w wr) (fun _ x _ => N - (intOf x).toNat)
  case atStart => exact ⟨0, 0, Nat.zero_le _, Nat.le_refl _, rfl, World.ownsRow_nil _ _ _ _, Below.refl _ _⟩
  case round =>
   obtain ⟨k, n, hk, hnk, rfl, hown, hb⟩ := hrel
   by_cases hlt : k < N
   ·have hka : k < a.size := by have := hNh.out; omega
    have hkb : k < b.size := by have := hNh.out; have := hlh.out; omega
    obtain ⟨X, hX⟩ : ∃ X, (el a).getD k 0 = X := ⟨_, rfl⟩
    obtain ⟨Y, hY⟩ : ∃ Y, (el b).getD k 0 = Y := ⟨_, rfl⟩
    have hbx := byte_val a k hka X hX
    have hby := byte_val b k hkb Y hY
    have hdf : differ (el a) (el b) k = !(X == Y) := by unfold differ; rw [hX, hY]
    have d1 : decide (k < a.size) = true := decide_eq_true hka
    have i1 : (0 : Int) ≤ (k : Int) := by omega
    have i2 : (k : Int) < (a.size : Int) := by omega
    have i3 : (k : Int) < (b.size : Int) := by omega
    rcases he : X == Y with _ | _
    ·have ht : ((X.toNat : Int) != (Y.toNat : Int)) = true := by rw [bne, bv_eq1, he]; rfl
     have hs := Lib.hid (lk_yes (a := el a) (b := el b) (k := k) (by rw [hdf, he]; rfl))
     clear hX hY he hdf
     go_wp2
     go_quiet (fail)
     rename_i nq _
     have hown := (show (wr.drewN nq).ownsRow _ _ _ _ _ _ from hown)
     have hb := chainN hb nq
     obtain ⟨W, hW⟩ : ∃ W, wr.drewN nq = W := ⟨_, rfl⟩
     rw [hW] at hown hb ⊢
     clear hW
     go_wp2_with (at_builtin; refine wpList_append_own _ rfl _ _ 95 rfl w.heap.size 3 j0 (.int .i64 0) 1 8 Tryz.underlying95 hj hy0 hy1 hy2 rfl (by decide) _ _ _ rfl (hown.alloc _) ⟨W.heap.size, 0, none⟩ 1 1 [.int .i64 (k : Int)] rfl rfl (one_new _ _ _) (one_cell _ _) ?d3 ?d4 ?d5 ?_)
     case d3 => unfold maxLen; omega
     case d4 => omega
     case d5 => have := hb.size; simp; omega
     intro v' w2 hown2 hgr _
     rw [show [Value.int .i64 (k : Int)] = is [(k : Int)] from rfl, ← is_append, ← hs.out] at hown2
     have hb2 := (hb.alloc hb.size _).grown hgr (by have := hb.size; simp; omega) (fun j hj => (hown.lt j hj).1)
     clear hown hgr hb
     go_wp2
     go_roundw
     case rel => exact ⟨k + 1, n + 1, by omega, by omega, by go_num, hown2, hb2⟩
     case measure => simp [intOf]; omega
    ·have ht : ((X.toNat : Int) != (Y.toNat : Int)) = false := by rw [bne, bv_eq1, he]; rfl
     have hs := Lib.hid (lk_no (a := el a) (b := el b) (k := k) (by rw [hdf, he]; rfl))
     clear hX hY he hdf
     go_wp2
     go_quiet (fail)
     rename_i nq _
     have hown := (show (wr.drewN nq).ownsRow _ _ _ _ _ _ from hown)
     rw [← hs.out] at hown
     have hb := chainN hb nq
     go_wp2
     go_roundw
     case rel => exact ⟨k + 1, n, by omega, by omega, by go_num, hown, hb⟩
     case measure => simp [intOf]; omega
   ·have hke : k = (el a).length := by rw [el_len, hNh.out]; omega
    have d1 : decide (k < a.size) = false := decide_eq_false (by have := hNh.out; omega)
    obtain ⟨A', c', rfl, _, _⟩ := own_slice hown
    have hfit := lk_fit (el a) (el b) k (by omega)
    obtain ⟨hsl, hlen⟩ := IsInts.of_own hown hfit
    have hsl := Lib.hid hsl
    have hlen := Lib.hid hlen
    have hq : Hid (LocQ (el a) (el b) (lk (el a) (el b) k) 0) := Lib.hid ⟨fun h => absurd (by rw [el_len, el_len]; exact hlh.out) h, fun _ => ⟨by rw [locL_lk, hke], rfl⟩⟩
    clear hown hfit hke
    go_wp2
    go_ret2
    exact ⟨A', n, c', _, 0, hq.out, hlen.out, rfl, hsl.out, hb⟩
 ·have t1 : ((a.size : Int) != (b.size : Int)) = true := by
   rw [bne_iff_ne]
   omega
  have t2 : (a.size != b.size) = true := by rw [bne_iff_ne]; exact hl
  have hlh := Lib.hid hl
  clear hl
  go_enter Tryz.func134, Tryz.ntmps134
  go_wp2
  go_ret2
  exact ⟨none, 0, 0, [], 1, ⟨fun _ => ⟨rfl, rfl⟩, fun h => absurd (by rw [← el_len, ← el_len]; exact h) hlh.out⟩, rfl, rfl, IsInts.no _, Below.refl _ _⟩

set_option maxHeartbeats 1000000 in
theorem rad_own (p e s : Int) (w : World) : Calls Tryz.prog 136 #[.int .i64 p, .int .i64 e, .int .i64 s] w fun o w' => o = .returned (.bool (radB p e s)) ∧ w = w' := by
 by_cases h1 : p < 1
 ·have d1 : decide (p < 1) = true := decide_eq_true h1
  have hr : radB p e s = false := decide_eq_false (by omega)
  rw [hr]
  go_enter Tryz.func136, Tryz.ntmps136
  go_wp2
  go_ret
  exact ⟨rfl, rfl⟩
 have d1 : decide (p < 1) = false := decide_eq_false h1
 by_cases h2 : 64 < p
 ·have d2 : decide (64 < p) = true := decide_eq_true h2
  have hr : radB p e s = false := decide_eq_false (by omega)
  rw [hr]
  go_enter Tryz.func136, Tryz.ntmps136
  go_wp2
  go_ret
  exact ⟨rfl, rfl⟩
 have d2 : decide (64 < p) = false := decide_eq_false h2
 by_cases h3 : e < 0
 ·have d3 : decide (e < 0) = true := decide_eq_true h3
  have hr : radB p e s = false := decide_eq_false (by omega)
  rw [hr]
  go_enter Tryz.func136, Tryz.ntmps136
  go_wp2
  go_ret
  exact ⟨rfl, rfl⟩
 have d3 : decide (e < 0) = false := decide_eq_false h3
 by_cases h4 : s < 0
 ·have d4 : decide (s < 0) = true := decide_eq_true h4
  have hr : radB p e s = false := decide_eq_false (by omega)
  rw [hr]
  go_enter Tryz.func136, Tryz.ntmps136
  go_wp2
  go_ret
  exact ⟨rfl, rfl⟩
 have d4 : decide (s < 0) = false := decide_eq_false h4
 by_cases h5 : p < s
 ·have d5 : decide (p < s) = true := decide_eq_true h5
  have hr : radB p e s = false := decide_eq_false (by omega)
  rw [hr]
  go_enter Tryz.func136, Tryz.ntmps136
  go_wp2
  go_ret
  exact ⟨rfl, rfl⟩
 have d5 : decide (p < s) = false := decide_eq_false h5
 obtain ⟨q, hq⟩ : ∃ q : Int, p - s = q := ⟨_, rfl⟩
 have q0 : 0 ≤ q := by omega
 have q1 : q ≤ 64 := by omega
 have hr : radB p e s = decide (e ≤ q / 2) := decide_eq_decide.2 ⟨fun h => by omega, fun h => by omega⟩
 have b3 : 0 ≤ s := by omega
 have b4 : s ≤ 64 := by omega
 rw [hr]
 clear hr
 go_enter Tryz.func136, Tryz.ntmps136
 go_wp2
 go_ret
 exact ⟨rfl, rfl⟩
end G8

namespace G8
open G5
open G7
open G6 (mb IsSl ev mulL ev_mulL derL ev_derL ml dv_trim dv_ml xz)
open Go.RowKit Mem

theorem cnt_parts (n : Nat) (P L : Nat → Bool) : cnt n P = cnt n (fun i => P i && L i) + cnt n (fun i => P i && !L i) := by
 induction n with
 | zero => rfl
 | succ n ih =>
  rw [cnt_succ, cnt_succ, cnt_succ, ih]
  cases P n <;> cases L n <;> simp <;> omega
theorem comN_lk (P L : Nat → Bool) (n : Nat) : comN (fk P n) (fk L n) = cnt n fun i => P i && L i := by
 unfold comN cnt
 rw [show fk P n = ((List.range n).filter P).map fun (i : Nat) => (i : Int) from rfl, List.filter_map, List.length_map, List.filter_filter]
 congr 1
 refine List.filter_congr fun i hi => ?_
 have hi := List.mem_range.1 hi
 simp only [Function.comp]
 rw [Bool.eq_iff_iff, Bool.and_eq_true, decide_eq_true_eq, fk_mem, Bool.and_eq_true]
 constructor
 ·rintro ⟨h1, h2⟩
  first | exact ⟨h1, h2.2⟩ | exact ⟨h2, h1.2⟩
 ·rintro ⟨h1, h2⟩
  first | exact ⟨h1, hi, h2⟩ | exact ⟨⟨hi, h2⟩, h1⟩
theorem syn_err {p : Nat} {w c : List R} (hc : Cw p c) (hl : c.length = w.length) (x : R) : ev (syn p w) x = sr (List.range w.length) fun i => tms (w.getD i 0 ^^^ c.getD i 0) (ev (geo p (lc w.length i)) x) := by
 have e : syn p w = syn p (xr w c) := tab_congr fun j hj => by
  rw [vl_xr _ _ _ hl.symm, hc j hj, xz]
 have hx : (xr w c).length = w.length := xr_len _ _ hl.symm
 rw [e, ev_syn, hx]
 refine sr_congr _ fun i hi => ?_
 have hi := List.mem_range.1 hi
 rw [row_vl.xr_get _ _ _ hi (by rw [hl]; exact hi)]
def gone (n : Nat) (zs : List Int) : List Nat := (List.range n).filter (Lof zs)
theorem gone_fk (n : Nat) (zs : List Int) : fk (Lof zs) n = (gone n zs).map fun (i : Nat) => (i : Int) := rfl
theorem gone_lt (n : Nat) (zs : List Int) : ∀ i ∈ gone n zs, i < n := fun i hi => List.mem_range.1 (List.mem_filter.1 hi).1
theorem gone_len (n : Nat) (zs : List Int) : (gone n zs).length = losts n (Lof zs) := rfl
def adds (n : Nat) (Γ F E : List R) (i : Nat) : R := corr (mulL Γ F) E (derL (mulL Γ F)) (rt n i)
theorem fixd_within {p n m : Nat} {w c F E : List R} {zs : List Int} (hn : w.length = n) (hn2 : n ≤ 60) (hp : p ≤ 16) (hm : (gone n zs).length = m) (hs : Sol p m (mulL (syn p w) (glm n (gone n zs))) F E) (hw : Within p w (Lof zs) c) :
  fixd w (adds n (glm n (gone n zs)) F E) n = c := by
 obtain ⟨⟨D, P, heu, hor⟩, hfin⟩ := hs
 have hrad := hw.rad
 rw [hn] at hrad
 have hml : m ≤ p := by rw [← hm, gone_len]; omega
 have h1 : p + m + 2 ≤ 2 * D.length := by
  rcases hor with h | h
  ·exact h
  ·rw [h, xp_len]; omega
 have hgl := glm_len n (gone n zs)
 have hgn : (gone n zs).length ≤ n := by
  have := List.length_filter_le (Lof zs) (List.range n)
  rw [List.length_range] at this
  exact this
 refine G6.eq_getD (by rw [fixd_len, hw.len]) fun i hi => ?_
 rw [fixd_len, hn] at hi
 unfold fixd
 rw [tab_get _ _ _ (by rw [hn]; exact hi), if_pos hi]
 have key : adds n (glm n (gone n zs)) F E i = w.getD i 0 ^^^ c.getD i 0 := by
  have hd0 : ∀ m, differ w c m = false → w.getD m 0 ^^^ c.getD m 0 = 0 := fun m h => by
   have : w.getD m 0 = c.getD m 0 := by simpa [differ] using h
   rw [this, xs]
  obtain ⟨k1, k2⟩ := euclid_done (n := n) (N := 80) (u := fun i => w.getD i 0 ^^^ c.getD i 0) (A := Lof zs) (B := fun i => differ w c i && !Lof zs i) (S := syn p w) (Γ := glm n (gone n zs)) (T := mulL (syn p w) (glm n (gone n zs)))
   (by omega) (by decide) (fun m h => by rw [h]; simp) (fun m _ h h' => hd0 m (by rw [h] at h'; simpa using h'))
   (fun m _ h e => by
    have h1 : differ w c m = true := by
     simp only [Bool.and_eq_true] at h
     exact h.1
    have : w.getD m 0 = c.getD m 0 := xor_eq_zero e
    rw [differ, this] at h1
    simp at h1)
   (by unfold errs losts at hrad; rw [hn] at hrad; exact hrad)
   (fun x => by have := syn_err (p := p) hw.cw hw.len x; rw [hn] at this; exact this)
   (fun x => ev_glm n _ x) (by rw [hgl]; omega) (fun x => ev_mulL _ _ x) heu (by rw [show ((List.range n).filter (Lof zs)).length = m from hm]; exact h1) (by rw [show ((List.range n).filter (Lof zs)).length = m from hm]; exact hfin) (by omega) hi (rt_lc n i)
  obtain ⟨x, hx⟩ : ∃ x, rt n i = x := ⟨_, rfl⟩
  obtain ⟨Γ, hΓ⟩ : ∃ Γ, glm n (gone n zs) = Γ := ⟨_, rfl⟩
  rw [hx, hΓ] at k1 k2
  unfold adds corr
  rw [hx, hΓ, ev_mulL]
  by_cases hAB : Lof zs i = true ∨ (differ w c i && !Lof zs i) = true
  ·obtain ⟨e1, e2, e3⟩ := k2 hAB
   rw [if_pos e1, ev_derL, mulL, dv_trim, dv_ml, e3]
   exact dv_tms _ e2
  ·have hA : Lof zs i = false := by
    cases h : Lof zs i
    ·rfl
    ·exact absurd (.inl h) hAB
   have hB : (differ w c i && !Lof zs i) = false := by
    cases h : (differ w c i && !Lof zs i)
    ·rfl
    ·exact absurd (.inr h) hAB
   rw [if_neg (k1 hA hB), hd0 i (by rw [hA] at hB; simpa using hB)]
 rw [key, ← BitVec.xor_assoc, xs, G6.zx]
theorem any_off {n : Nat} {p : Int} {zs : List Int} (h1 : 1 ≤ p) (h2 : p ≤ 64) (h3 : p ≤ (n : Int)) (h4 : n ≤ 255) : zs.any (offB n) = true ↔ Bad n p zs := by
 rw [List.any_eq_true]
 unfold Bad offB
 constructor
 ·rintro ⟨z, hz, h⟩
  exact .inr (.inr (.inr (.inr ⟨z, hz, by simpa using h⟩)))
 ·rintro (h | h | h | h | ⟨z, hz, h⟩)
  ·omega
  ·omega
  ·omega
  ·omega
  ·exact ⟨z, hz, by simpa using h⟩
theorem checked {p n m : Nat} {w c : List R} {zs : List Int} (hn : w.length = n) (hl : c.length = n) (hm : (gone n zs).length = m) (hr : radB (p : Int) ((dif w c : Int) - (cnt n (fun i => differ w c i && Lof zs i) : Int)) (m : Int) = true) (hc : cwB p c = true) : Within p w (Lof zs) c := by
 refine ⟨cwB_iff.1 hc, hl.trans hn.symm, ?_⟩
 have h := of_decide_eq_true hr
 have hp := cnt_parts n (differ w c) (Lof zs)
 have hd : dif w c = cnt n (differ w c) := by unfold dif; rw [hn]
 have hlo : losts n (Lof zs) = m := by rw [← hm, gone_len]
 unfold errs
 rw [hn, hlo]
 omega
theorem rad_yes {p n m : Nat} {w c : List R} {zs : List Int} (h1 : 1 ≤ p) (h2 : p ≤ 64) (hn : w.length = n) (hm : (gone n zs).length = m) (h : Within p w (Lof zs) c) : radB (p : Int) ((dif w c : Int) - (cnt n (fun i => differ w c i && Lof zs i) : Int)) (m : Int) = true := by
 have hp := cnt_parts n (differ w c) (Lof zs)
 have hd : dif w c = cnt n (differ w c) := by unfold dif; rw [hn]
 have hlo : losts n (Lof zs) = m := by rw [← hm, gone_len]
 have hr := h.rad
 unfold errs at hr
 rw [hn, hlo] at hr
 exact decide_eq_true (by omega)
theorem losts_n (n : Nat) (zs : List Int) : (gone n zs).length ≤ n := by
 have := List.length_filter_le (Lof zs) (List.range n)
 rw [List.length_range] at this
 exact this

set_option maxHeartbeats 8000000 in
theorem dec_good {A : Option Addr} {k c p n : Nat} {s : ByteArray} {zs : List Int} {w : World} (h : IsInts w A c zs) (hk : zs.length = k) (hn : s.size = n) (hn2 : n ≤ 60) (hp1 : 1 ≤ p) (hp : p ≤ 16) (hpn : p ≤ n) :
  Calls Tryz.prog 85 #[.string s, .int .i64 (p : Int), .slice A k c] w (Deco (el s) (p : Int) zs w) := by
 have hel : (el s).length = n := by rw [el_len, hn]
 have cS := Lib.hid (syn_own s p w hp1 (by omega) (by omega) (by omega))
 have hbad := any_off (n := n) (zs := zs) (p := (p : Int)) (by omega) (by omega) (by omega) (by omega)
 have hh := Lib.hid h
 have hkh := Lib.hid hk
 have hbad := Lib.hid hbad
 have helh := Lib.hid hel
 clear h hk hel
 go_enter Tryz.func85, Tryz.ntmps85
 go_wp2_with fail
 refine cS.out.mono ?_
 rintro e w1 ⟨A1, c1, rfl, hs1, hb1⟩
 have hh := Lib.hid (hh.out.below hb1)
 have hs1 := Lib.hid hs1
 have cA := are_own (N := n) hh.out hkh.out
 clear cS
 rcases hoff : zs.any (offB n) with _ | _
 ·rw [hoff] at cA
  have hnb := Lib.hid (show ¬ Bad n (p : Int) zs from fun h => by rw [hbad.out.2 h] at hoff; cases hoff)
  have cA := Lib.hid cA
  clear hoff hbad
  go_wp2_with fail
  refine cA.out.mono ?_
  rintro e w2 ⟨rfl, hb2⟩
  have hb2' := chain hb1 hb2
  have hh := Lib.hid (hh.out.below hb2)
  have hs1 := Lib.hid (hs1.out.below hb2)
  have cD := Lib.hid (distinct_own (N := n) hh.out hkh.out (by omega))
  clear hb1 hb2 cA
  go_wp2_with fail
  refine cD.out.mono ?_
  rintro e w3 ⟨A3, m, c3, hm, rfl, hs3, hb3⟩
  have hb3' := chain hb2' hb3
  have hs1 := hs1.out.below hb3
  have hgm : (gone n zs).length = m := by rw [gone_fk, List.length_map] at hm; exact hm
  have hmn : m ≤ n := by rw [← hgm]; exact losts_n n zs
  have cC := Lib.hid (corrected_own hs1 (syn_len p (el s)) (show IsInts w3 A3 c3 ((gone n zs).map fun (i : Nat) => (i : Int)) from hs3) hgm hp1 hp (by omega) hn hn2 (gone_lt n zs))
  have hs3 := Lib.hid hs3
  have hgm := Lib.hid hgm
  have hmh := Lib.hid hm
  clear hb2' hb3 cD hs1 hm
  go_wp2_with fail
  refine cC.out.mono ?_
  rintro e w4 ⟨F, E, hsol, rfl, hb4⟩
  have hb4' := chain hb3' hb4
  have hs3 := hs3.out.below hb4
  have hfull := fun cw => fixd_within helh.out hn2 hp hgm.out hsol (c := cw)
  have hcl := fixd_len (el s) (adds n (glm n (gone n zs)) F E) n
  obtain ⟨cd, hcd⟩ : ∃ cd, fixd (el s) (adds n (glm n (gone n zs)) F E) n = cd := ⟨_, rfl⟩
  rw [hcd] at hfull hcl
  have hstr : str (fixd (el s) (fun i => corr (mulL (glm n (gone n zs)) F) E (derL (mulL (glm n (gone n zs)) F)) (rt n i)) n) = str cd := by rw [← hcd]; rfl
  rw [hstr]
  rw [helh.out] at hcl
  obtain ⟨S, hS⟩ : ∃ S, str cd = S := ⟨_, rfl⟩
  have hSs : S.size = n := by rw [← hS, size_str, hcl]
  have hSe : el S = cd := by rw [← hS, el_str]
  rw [hS]
  have cL := loc_own s S w4 (by omega) (by omega)
  rw [hSe] at cL
  have cL := Lib.hid cL
  have hfull := Lib.hid hfull
  have hclh := Lib.hid hcl
  have hSsh := Lib.hid hSs
  have hSeh := Lib.hid hSe
  have hSh := Lib.hid hS
  have hs3 := Lib.hid hs3
  clear hb3' hb4 cC hsol hcd hstr hcl hSs hSe hS
  go_wp2_with fail
  refine cL.out.mono ?_
  rintro e w5 ⟨A5, q, c5, l, err, hq, hl, rfl, hs5, hb5⟩
  obtain ⟨rfl, rfl⟩ := hq.2 (by rw [helh.out, hclh.out])
  have hb5' := chain hb4' hb5
  have hs3 := Lib.hid (hs3.out.below hb5)
  have cN := common_own hs5 hl hs3.out hmh.out
  have hlq : dif (el s) cd = q := by rw [← dif_locL]; exact hl
  have hcom : comN (locL (el s) cd) (fk (Lof zs) n) = cnt n (fun i => differ (el s) cd i && Lof zs i) := by
   rw [locL_lk, helh.out]
   exact comN_lk _ _ _
  rw [hcom] at cN
  have hct : cnt n (fun i => differ (el s) cd i && Lof zs i) ≤ q := by
   rw [← hlq, dif, helh.out]
   exact cnt_mono fun i _ h => by simp only [Bool.and_eq_true] at h; exact h.1
  have hqn : q ≤ n := by
   rw [← hlq, dif, helh.out]
   exact cnt_le _ _
  have hrY := fun cw => rad_yes (w := el s) (c := cw) (zs := zs) hp1 (by omega) helh.out hgm.out
  have hchk := fun hr hc => checked (p := p) (c := cd) (zs := zs) helh.out hclh.out hgm.out hr hc
  have hrY := hrY cd
  rw [hlq] at hrY hchk
  obtain ⟨t, ht⟩ : ∃ t, cnt n (fun i => differ (el s) cd i && Lof zs i) = t := ⟨_, rfl⟩
  rw [ht] at hrY hchk cN hct
  have cN := Lib.hid cN
  have hrY := Lib.hid hrY
  have hchk := Lib.hid hchk
  have hlqh := Lib.hid hlq
  clear hq hs5 hb5 hb4' hl hcom ht cL hlq
  go_wp2_with fail
  refine cN.out.mono ?_
  rintro e w6 ⟨rfl, rfl⟩
  clear cN
  obtain ⟨er, her⟩ : ∃ er : Int, (q : Int) - (t : Int) = er := ⟨_, rfl⟩
  rw [her] at hrY hchk
  have er0 : 0 ≤ er := by omega
  have er1 : er ≤ 60 := by omega
  have cR := rad_own (p : Int) er (m : Int) w5
  have cI := isc_own S p w5 hp1 (by omega) (by rw [hSsh.out]; exact hpn) (by rw [hSsh.out]; omega)
  rw [hSeh.out] at cI
  have cI := Lib.hid cI
  have hans : Hid (∀ R I, radB (p : Int) er (m : Int) = R → cwB p cd = I → DecQ (el s) (p : Int) zs (if R && I then S else ⟨#[]⟩) (if R && I then (q : Int) else 0) (if R && I then 0 else 11)) := Lib.hid fun R I hR hI => by
   refine ⟨fun hb => absurd (by rw [← helh.out]; exact hb) hnb.out, fun _ => ⟨fun cw hw => ?_, fun hno => ?_⟩⟩
   ·rw [Int.toNat_natCast] at hw
    have e := hfull.out cw hw
    rw [← e] at hw ⊢
    rw [hrY.out hw] at hR
    rw [cwB_yes hw.cw] at hI
    rw [← hR, ← hI]
    exact ⟨hSh.out.symm, by rw [hlqh.out]; rfl, rfl⟩
   ·rcases R with _ | _
    ·exact ⟨rfl, rfl, rfl⟩
    ·rcases I with _ | _
     ·exact ⟨rfl, rfl, rfl⟩
     ·exact absurd (hchk.out hR hI) (by have := hno cd; rwa [Int.toNat_natCast] at this)
  rcases hR : radB (p : Int) er (m : Int) with _ | _
  ·rw [hR] at cR
   have cR := Lib.hid cR
   have hans := Lib.hid (hans.out false (cwB p cd) hR rfl)
   clear hR hrY hchk hfull
   go_wp2_with fail
   refine cR.out.mono ?_
   rintro e w7 ⟨rfl, rfl⟩
   go_wp2
   go_ret3
   exact ⟨_, _, _, hans.out, rfl, hb5'⟩
  ·rw [hR] at cR
   have cR := Lib.hid cR
   rcases hI : cwB p cd with _ | _
   ·rw [hI] at cI
    have hans := Lib.hid (hans.out true false hR hI)
    clear hR hI hrY hchk hfull
    go_wp2_with fail
    refine cR.out.mono ?_
    rintro e w7 ⟨rfl, rfl⟩
    clear cR
    go_wp2_with fail
    refine cI.out.mono ?_
    rintro e w8 ⟨rfl, hb8⟩
    have hb9 := chain hb5' hb8
    go_wp2
    go_ret3
    exact ⟨_, _, _, hans.out, rfl, hb9⟩
   ·rw [hI] at cI
    have hans := Lib.hid (hans.out true true hR hI)
    clear hR hI hrY hchk hfull
    go_wp2_with fail
    refine cR.out.mono ?_
    rintro e w7 ⟨rfl, rfl⟩
    clear cR
    go_wp2_with fail
    refine cI.out.mono ?_
    rintro e w8 ⟨rfl, hb8⟩
    have hb9 := chain hb5' hb8
    go_wp2
    go_ret3
    exact ⟨_, _, _, hans.out, rfl, hb9⟩
 ·rw [hoff] at cA
  have hb := Lib.hid (hbad.out.1 hoff)
  have cA := Lib.hid cA
  clear hoff hbad
  go_wp2_with fail
  refine cA.out.mono ?_
  rintro e w2 ⟨rfl, hb2⟩
  have hb2' := chain hb1 hb2
  go_wp2
  go_ret3
  exact ⟨⟨#[]⟩, 0, 1, ⟨fun _ => ⟨rfl, rfl, rfl⟩, fun h => absurd (by rw [helh.out]; exact hb.out) h⟩, rfl, hb2'⟩
set_option maxHeartbeats 2000000 in
theorem dec_bad {A : Option Addr} {k c : Nat} {p q : Int} {s : ByteArray} {zs : List Int} {w : World} (hq : Calls Tryz.prog 130 #[.string s, .int .i64 p] w (NoSl q w)) (hq0 : q ≠ 0) (hb : Bad (el s).length p zs) :
  Calls Tryz.prog 85 #[.string s, .int .i64 p, .slice A k c] w (Deco (el s) p zs w) := by
 have cS := Lib.hid hq
 have t1 : (q != 0) = true := by simpa using hq0
 have hbh := Lib.hid hb
 clear hq hq0 hb
 go_enter Tryz.func85, Tryz.ntmps85
 go_wp2_with fail
 refine cS.out.mono ?_
 rintro e w1 ⟨rfl, rfl⟩
 go_wp2
 go_ret3
 exact ⟨⟨#[]⟩, 0, 1, ⟨fun _ => ⟨rfl, rfl, rfl⟩, fun h => absurd hbh.out h⟩, rfl, Below.refl _ _⟩
theorem dec_own {s : ByteArray} {p : Int} {zs : List Int} {A : Option Addr} {n c : Nat} {w : World} (h : IsInts w A c zs) (hl : zs.length = n) (hs : s.size ≤ 60) (h1 : -9223372036854775808 ≤ p) (h2 : p ≤ 16) : Calls Tryz.prog 85 #[.string s, .int .i64 p, .slice A n c] w (Deco (el s) p zs w) := by
 by_cases hp : p < 1
 ·exact dec_bad (syn_out s p w (.inl hp)) (by decide) (.inl hp)
 ·obtain ⟨P, rfl⟩ : ∃ P : Nat, p = (P : Int) := ⟨p.toNat, by omega⟩
  by_cases hn : s.size < P
  ·exact dec_bad (syn_short s P w (by omega) (by omega) hn) (by decide) (.inr (.inr (.inl (by rw [el_len]; omega))))
  ·exact dec_good h hl rfl hs (by omega) (by omega) (by omega)
end G8
end Go.Proofs.YtiodkllckcpinaaGreatDoor
