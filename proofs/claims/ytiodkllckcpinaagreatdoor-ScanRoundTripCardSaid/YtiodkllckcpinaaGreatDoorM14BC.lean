/- Facts and contracts that the walks of this layer use, merged: V10Ref4, V10Ref5. -/
import Derived.Test.YtiodkllckcpinaaGreatDoorM14BB
set_option linter.unusedVariables false
set_option linter.unusedSimpArgs false
set_option maxRecDepth 100000
namespace Go.Proofs.YtiodkllckcpinaaGreatDoor
namespace V10
open Go.RowKit Mem C9

theorem dec_drop : ∀ (R : List (UInt8 × UInt8)) (s1 s2 : Bool) (k : Nat), (dec R s1 s2).drop k = dec (R.drop k) (fin s1 s2 ((dec R s1 s2).take k)).1 (fin s1 s2 ((dec R s1 s2).take k)).2
 | R, s1, s2, 0 => rfl
 | [], s1, s2, k + 1 => rfl
 | r :: R, s1, s2, k + 1 => by
  obtain ⟨u, hu⟩ : ∃ u, dec (r :: R) s1 s2 = u :: dec R u s1 := by
   by_cases h : (tb R false s1).1 < 0 ∨ (mm r s1 s2 false : Int) + (tb R false s1).1 ≠ (tb (r :: R) s1 s2).1
   ·exact ⟨true, if_pos h⟩
   ·exact ⟨false, if_neg h⟩
  rw [hu]
  exact dec_drop R u s1 k
theorem dec_bit (R : List (UInt8 × UInt8)) (k : Nat) (h : k < R.length) (h' : k < (dec R false false).length) (s1 s2 : Bool) (hs : fin false false ((dec R false false).take k) = (s1, s2)) :
  (dec R false false)[k] = decide ((tb (R.drop (k + 1)) false s1).1 < 0 ∨ (mm R[k] s1 s2 false : Int) + (tb (R.drop (k + 1)) false s1).1 ≠ (tb (R.drop k) s1 s2).1) := by
 have h1 := dec_drop R false false k
 rw [hs, List.drop_eq_getElem_cons h', List.drop_eq_getElem_cons h] at h1
 rw [List.drop_eq_getElem_cons h]
 have e : dec (R[k] :: R.drop (k + 1)) s1 s2 = if (tb (R.drop (k + 1)) false s1).1 < 0 ∨ (mm R[k] s1 s2 false : Int) + (tb (R.drop (k + 1)) false s1).1 ≠ (tb (R[k] :: R.drop (k + 1)) s1 s2).1 then true :: dec (R.drop (k + 1)) true s1 else false :: dec (R.drop (k + 1)) false s1 := rfl
 simp only at h1
 rw [e] at h1
 by_cases hc : (tb (R.drop (k + 1)) false s1).1 < 0 ∨ (mm R[k] s1 s2 false : Int) + (tb (R.drop (k + 1)) false s1).1 ≠ (tb (R[k] :: R.drop (k + 1)) s1 s2).1
 ·rw [if_pos hc] at h1
  rw [decide_eq_true hc]
  injection h1
 ·rw [if_neg hc] at h1
  rw [decide_eq_false hc]
  injection h1
theorem Tab.cost {W : World} {g : Nat} {c : ByteArray} {m : Nat} (h : Tab W g c m) (q s : Nat) (hq : q ≤ m) (hs : s < 4) : W.cell? ⟨g, q * 8 + s * 2, none⟩ = some (.int .i64 (rowE ((rc c).drop q) s).1) ∧ W.cell? ⟨g, q * 8 + s * 2 + 1, none⟩ = some (.int .i64 ((rowE ((rc c).drop q) s).2 : Int)) :=
 ⟨(h.cells q hq (s * 2) (by omega)).trans (ents_at1 _ s hs), (h.cells q hq (s * 2 + 1) (by omega)).trans (ents_at2 _ s hs)⟩
theorem rowE_at (R : List (UInt8 × UInt8)) (s1 s2 : Bool) : rowE R (stN s1 s2) = tb R s1 s2 := by cases s1 <;> cases s2 <;> rfl
theorem info_byte10 : (Tryz.prog.info? 5).map (fun i => (i.zero, i.size, i.bytes)) = some (some (.int .u8 0), 1, 1) := by kernel_rfl
theorem dS_err' {c : ByteArray} (h : eB c ≠ 0) : dS c = ⟨#[]⟩ ∧ dN c = 0 ∧ dB c = false := by
 unfold dS dN dB
 rw [if_neg h, if_neg h, if_neg h]
 exact ⟨rfl, rfl, rfl⟩
end V10
namespace V10
open Go.RowKit Mem C9

set_option maxHeartbeats 16000000 in
theorem rdecode_any (c : ByteArray) (w : World) (hc : c.size ≤ 100000) : Calls Tryz.prog 60 #[.string c] w (Deco c w) := by
 obtain ⟨ti, hti, hz0, hz1, hz2⟩ := info_parts info_byte10
 have cK := rcheck10 c w (by omega)
 unfold Deco
 by_cases he : eB c = 0
 ·rw [he] at cK ⊢
  obtain ⟨ho, n, hn⟩ := eB_zero he
  have cT := table_any c n w hn hc
  have hdS : dS c = sb ((dec (rc c) false false).take n) := by unfold dS; rw [if_pos he, show c.size / 2 - 2 = n by omega]
  have hdN : dN c = (rowE ((rc c).drop 0) 0).1 := by unfold dN; rw [if_pos he]; rfl
  have hdB : dB c = (((rowE ((rc c).drop 0) 0).2 : Int) == 1) := by
   unfold dB
   rw [if_pos he]
   show decide ((rowE (rc c) 0).2 = 1) = (((rowE (rc c) 0).2 : Int) == 1)
   generalize (rowE (rc c) 0).2 = y
   by_cases hy : y = 1
   ·subst hy; rfl
   ·rw [decide_eq_false hy]
    exact (beq_eq_false_iff_ne.2 (by omega)).symm
  rw [hdS, hdN, hdB]
  have hrl := rc_len hn
  obtain ⟨Dl, hD⟩ : ∃ D, dec (rc c) false false = D := ⟨_, rfl⟩
  have hDl : Dl.length = n + 2 := by rw [← hD, dec_len, hrl]
  have hbit : ∀ (k : Nat) (h : k < (rc c).length) (h' : k < Dl.length) (s1 s2 : Bool), fin false false (Dl.take k) = (s1, s2) → Dl[k] = decide ((tb ((rc c).drop (k + 1)) false s1).1 < 0 ∨ (mm (rc c)[k] s1 s2 false : Int) + (tb ((rc c).drop (k + 1)) false s1).1 ≠ (tb ((rc c).drop k) s1 s2).1) := by
   subst hD
   exact fun k h h' s1 s2 hs => dec_bit (rc c) k h h' s1 s2 hs
  rw [hD]
  have q1 : (c.size : Int) / 2 = (n : Int) + 2 := by omega
  have q2 : c.size / 2 = n + 2 := by omega
  have q3 : (c.size : Int) / 2 - 2 = (n : Int) := by omega
  have hn5 : n ≤ 50000 := by omega
  replace cK := Lib.hid cK
  replace cT := Lib.hid cT
  replace hbit := Lib.hid hbit
  replace hn := Lib.hid hn
  replace hrl := Lib.hid hrl
  replace hDl := Lib.hid hDl
  clear he ho hdS hdN hdB hD
  go_enter Tryz.func60, Tryz.ntmps60
  go_wp2_with fail
  refine cK.out.mono ?_
  rintro e w1 ⟨rfl, rfl⟩
  go_wp2_with fail
  refine cT.out.mono ?_
  rintro e w1 ⟨g, rfl, hT, hB⟩
  obtain ⟨M, hM⟩ : ∃ M, n + 3 = M := ⟨_, rfl⟩
  rw [hM]
  have hlt0 := hT.lt
  have hstart := World.ownsRow_lit (base := w1.heap.size) (e := 5) (size := 1) w1 #[] 0 (Nat.le_refl _) (by decide) rfl
  have hb0 : Below w1.heap.size w1 (w1.alloc (.cells #[] 5)) := (Below.refl _ _).alloc (Nat.le_refl _) _
  replace hT := Lib.hid hT
  clear cK cT
  go_wp2
  go_loopw [8, 9, 10] (fun bv sv i wr => ∃ (k S : Nat) (s1 s2 : Bool), k ≤ n ∧ i = .int .i64 (k : Int) ∧ sv = .int .i64 (S : Int) ∧ Hid (S = stN s1 s2) ∧ Hid (fin false false (Dl.take k) = (s1, s2)) ∧ wr.ownsRow w1.heap.size 5 1 bv k (bys (cs (Dl.take k))) ∧ Below w1.heap.size w1 wr) (fun _ _ i _ => n - (intOf i).toNat)
  case atStart => exact ⟨0, 0, false, false, Nat.zero_le _, rfl, rfl, Lib.hid rfl, Lib.hid rfl, hstart, hb0⟩
  case round =>
   obtain ⟨k, S, s1, s2, hk, rfl, rfl, hS, hf, hown, hb⟩ := hrel
   clear hstart hb0
   by_cases hlt : k < n
   ·have hkr : k < (rc c).length := by rw [hrl.out]; omega
    have hkD : k < Dl.length := by rw [hDl.out]; omega
    have hbt := hbit.out k hkr hkD s1 s2 hf.out
    have hS4 : S < 4 := by rw [hS.out]; cases s1 <;> cases s2 <;> decide
    obtain ⟨S0, hS0⟩ : ∃ S0, stN false s1 = S0 := ⟨_, rfl⟩
    obtain ⟨S1, hS1⟩ : ∃ S1, stN true s1 = S1 := ⟨_, rfl⟩
    have hS04 : S0 < 4 := by rw [← hS0]; cases s1 <;> decide
    have n0 := fun W => rnext_at s1 s2 false W
    have n1 := fun W => rnext_at s1 s2 true W
    rw [← hS.out, hS0] at n0
    rw [← hS.out, hS1] at n1
    obtain ⟨C1, hC1⟩ : ∃ C, sb [true ^^ s1 ^^ s2, true ^^ s2] = C := ⟨_, rfl⟩
    rw [hC1] at n1
    have hk2 : 2 * k + 1 < c.size := by have := hn.out; omega
    have cM := fun W => mismatch_any c k (false ^^ s1 ^^ s2) (false ^^ s2) W hk2 (by omega)
    have hpg : (rc c)[k] = (c[2 * k], c[2 * k + 1]) := pairs_get k _ hkr (by rw [size_list]; omega) (by rw [size_list]; exact hk2)
    have hm : (mis c[2 * k] (false ^^ s1 ^^ s2) + mis c[2 * k + 1] (false ^^ s2)) = mm (rc c)[k] s1 s2 false := by rw [hpg]; rfl
    rw [hm] at cM
    obtain ⟨C0, hC0⟩ : ∃ C, sb [false ^^ s1 ^^ s2, false ^^ s2] = C := ⟨_, rfl⟩
    rw [hC0] at n0 cM
    have hml := mm_le (rc c)[k] s1 s2 false
    obtain ⟨d, hd⟩ : ∃ d, mm (rc c)[k] s1 s2 false = d := ⟨_, rfl⟩
    rw [hd] at hbt cM hml
    have cX := fun W (hW : Below w1.heap.size w1 W) => ((hT.out.below hW).cost (k + 1) S0 (by omega) hS04).1
    have cY := fun W (hW : Below w1.heap.size w1 W) => ((hT.out.below hW).cost k S (by omega) hS4).1
    have fX := rowE_fit ((rc c).drop (k + 1)) (by rw [List.length_drop, hrl.out]; omega) S0
    have fY := rowE_fit ((rc c).drop k) (by rw [List.length_drop, hrl.out]; omega) S
    rw [← rowE_at, ← rowE_at, hS0, ← hS.out] at hbt
    obtain ⟨X, hX⟩ : ∃ X, (rowE ((rc c).drop (k + 1)) S0).1 = X := ⟨_, rfl⟩
    obtain ⟨Y, hY⟩ : ∃ Y, (rowE ((rc c).drop k) S).1 = Y := ⟨_, rfl⟩
    simp only [hX] at cX hbt fX
    simp only [hY] at cY hbt fY
    replace n0 : ∀ W, Calls Tryz.prog 99 #[.int .i64 (S : Int), .int .i64 0] W fun e w' => e = .returned (.tuple #[.int .i64 (S0 : Int), .string C0]) ∧ Below W.heap.size W w' := n0
    replace n1 : ∀ W, Calls Tryz.prog 99 #[.int .i64 (S : Int), .int .i64 1] W fun e w' => e = .returned (.tuple #[.int .i64 (S1 : Int), .string C1]) ∧ Below W.heap.size W w' := n1
    replace n0 := Lib.hid n0
    replace n1 := Lib.hid n1
    replace cM := Lib.hid cM
    replace hbt := Lib.hid hbt
    replace hS0 := Lib.hid hS0
    replace hS1 := Lib.hid hS1
    have i0 : (0 : Int) ≤ (k : Int) := by omega
    have i1 : (k : Int) < (M : Int) := by omega
    have i2 : (0 : Int) ≤ (k : Int) + 1 := by omega
    have i3 : (k : Int) + 1 < (M : Int) := by omega
    have i4 : IntKind.i64.wrap ((k : Int) + 1) = (k : Int) + 1 := IntWalk.i64_in _ (by omega)
    have i5 : ((k : Int) + 1).toNat = k + 1 := by omega
    have j0 : (0 : Int) ≤ (S : Int) := by omega
    have j1 : (S : Int) < 4 := by omega
    have j2 : (0 : Int) ≤ (S0 : Int) := by omega
    have j3 : (S0 : Int) < 4 := by omega
    have dl : decide ((k : Int) < (n : Int)) = true := decide_eq_true (by omega)
    clear hd hX hY hC0 hC1 hpg hm
    go_wp2_with fail
    refine (n0.out _).mono ?_
    rintro e w5 ⟨rfl, hb5⟩
    have hbw : Below w1.heap.size w1 w5 := Below.trans hb (hb5.mono hb.size)
    have hown5 := own_below hown hb5
    have x0 := cX w5 hbw
    have y0 := cY w5 hbw
    have x1 := fun N => cX (w5.drewN N) (chainN hbw N)
    have y1 := fun N => cY (w5.drewN N) (chainN hbw N)
    clear cX cY n0 hb5 hown hb
    have hset0 : ∀ u, Dl[k] = u → bys (cs (Dl.take (k + 1))) = bys (cs (Dl.take k)) ++ [.int .u8 ((cell u).toNat : Int)] := fun u hu => by
     rw [List.take_succ_eq_append_getElem hkD, hu]
     simp [bys, cs]
    have hfin1 : ∀ u, Dl[k] = u → fin false false (Dl.take (k + 1)) = (u, s1) := fun u hu => by
     rw [List.take_succ_eq_append_getElem hkD, fin_app, hf.out, hu]
     rfl
    by_cases hx : X < 0
    ·have hbv : Dl[k] = true := by rw [hbt.out]; exact decide_eq_true (.inl hx)
     have dx : decide (X < 0) = true := decide_eq_true hx
     have hs1 := Lib.hid (hset0 _ hbv)
     have hf1 := Lib.hid (hfin1 _ hbv)
     clear cM y0 y1 hbt hset0 hfin1 hbv
     go_wp2_with fail
     go_quiet (fail)
     go_wp2_with fail
     refine (n1.out _).mono ?_
     rintro e w6 ⟨rfl, hb6⟩
     have hown6 := own_below (own_drewN hown5 nq) hb6
     have hbw6 : Below w1.heap.size w1 w6 := Below.trans (chainN hbw nq) (hb6.mono (by show w1.heap.size ≤ w5.heap.size; exact hbw.size))
     clear hown5 hbw hb6 x0 x1
     go_wp2_with (at_builtin; refine wpList_append_own _ rfl _ _ 53 rfl w1.heap.size 5 ti (.int .u8 0) 1 1 Tryz.underlying53 hti hz0 hz1 hz2 rfl (by decide) _ _ _ rfl (hown6.alloc _) ⟨w6.heap.size, 0, none⟩ 1 1 [.int .u8 49] rfl rfl (one_new _ _ _) (one_cell _ _) ?c3 ?c4 ?c5 ?_)
     case c3 => unfold maxLen; omega
     case c4 => omega
     case c5 => have := hbw6.size; simp; omega
     intro v' w7 hown7 hgrow _
     have hb7 : Below w1.heap.size w1 w7 := (hbw6.alloc hbw6.size _).grown hgrow (by have := hbw6.size; simp; omega) (fun j hj => (hown6.lt j hj).1)
     have hr7 : w7.ownsRow w1.heap.size 5 1 v' (k + 1) (bys (cs (Dl.take (k + 1)))) := by rw [hs1.out]; exact hown7
     clear hown6 hbw6 hgrow hown7
     go_wp2
     go_roundw
     case rel => exact ⟨k + 1, S1, true, s1, by omega, by go_num, rfl, Lib.hid hS1.out.symm, hf1, hr7, hb7⟩
     case measure => simp [intOf]; omega
    ·have dx : decide (X < 0) = false := decide_eq_false hx
     have wr1 : IntKind.i64.wrap ((d : Int) + X) = (d : Int) + X := IntWalk.i64_in _ (by omega)
     by_cases hxy : (d : Int) + X = Y
     ·have hbv : Dl[k] = false := by
       rw [hbt.out]
       exact decide_eq_false (fun h' => h'.elim hx fun h' => h' hxy)
      have dy : ((d : Int) + X != Y) = false := by simp [hxy]
      have hs1 := Lib.hid (hset0 _ hbv)
      have hf1 := Lib.hid (hfin1 _ hbv)
      replace wr1 := Lib.hid wr1
      clear hbt hset0 hfin1 hbv hxy
      replace wr1 := wr1.out
      go_wp2_with fail
      go_quiet ((go_at_call 100; exact Calls.quiet_of (cM.out _)))
      have hown6 := own_drewN hown5 nq
      have hbw6 : Below w1.heap.size w1 (w5.drewN nq) := chainN hbw nq
      clear hown5 hbw x0 x1 y0 y1 wr1
      go_wp2_with (at_builtin; refine wpList_append_own _ rfl _ _ 53 rfl w1.heap.size 5 ti (.int .u8 0) 1 1 Tryz.underlying53 hti hz0 hz1 hz2 rfl (by decide) _ _ _ rfl (hown6.alloc _) ⟨w5.heap.size, 0, none⟩ 1 1 [.int .u8 48] rfl rfl (one_new _ _ _) (one_cell _ _) ?c6 ?c7 ?c8 ?_)
      case c6 => unfold maxLen; omega
      case c7 => omega
      case c8 => have : w1.heap.size ≤ w5.heap.size := hbw6.size; simp; omega
      intro v' w7 hown7 hgrow _
      have hb7 : Below w1.heap.size w1 w7 := (hbw6.alloc hbw6.size _).grown hgrow (by have : w1.heap.size ≤ w5.heap.size := hbw6.size; simp; omega) (fun j hj => (hown6.lt j hj).1)
      have hr7 : w7.ownsRow w1.heap.size 5 1 v' (k + 1) (bys (cs (Dl.take (k + 1)))) := by rw [hs1.out]; exact hown7
      clear hown6 hbw6 hgrow hown7
      go_wp2
      go_roundw
      case rel => exact ⟨k + 1, S0, false, s1, by omega, by go_num, rfl, Lib.hid hS0.out.symm, hf1, hr7, hb7⟩
      case measure => simp [intOf]; omega
     ·have hbv : Dl[k] = true := by
       rw [hbt.out]
       exact decide_eq_true (.inr hxy)
      have dy : ((d : Int) + X != Y) = true := by simp [hxy]
      have hs1 := Lib.hid (hset0 _ hbv)
      have hf1 := Lib.hid (hfin1 _ hbv)
      clear hbt hset0 hfin1 hbv hxy
      go_wp2_with fail
      go_quiet ((go_at_call 100; exact Calls.quiet_of (cM.out _)))
      go_wp2_with fail
      refine (n1.out _).mono ?_
      rintro e w6 ⟨rfl, hb6⟩
      have hown6 := own_below (own_drewN hown5 nq) hb6
      have hbw6 : Below w1.heap.size w1 w6 := Below.trans (chainN hbw nq) (hb6.mono (by show w1.heap.size ≤ w5.heap.size; exact hbw.size))
      clear hown5 hbw hb6 x0 x1 y0 y1 wr1
      go_wp2_with (at_builtin; refine wpList_append_own _ rfl _ _ 53 rfl w1.heap.size 5 ti (.int .u8 0) 1 1 Tryz.underlying53 hti hz0 hz1 hz2 rfl (by decide) _ _ _ rfl (hown6.alloc _) ⟨w6.heap.size, 0, none⟩ 1 1 [.int .u8 49] rfl rfl (one_new _ _ _) (one_cell _ _) ?c9 ?c10 ?c11 ?_)
      case c9 => unfold maxLen; omega
      case c10 => omega
      case c11 => have := hbw6.size; simp; omega
      intro v' w7 hown7 hgrow _
      have hb7 : Below w1.heap.size w1 w7 := (hbw6.alloc hbw6.size _).grown hgrow (by have := hbw6.size; simp; omega) (fun j hj => (hown6.lt j hj).1)
      have hr7 : w7.ownsRow w1.heap.size 5 1 v' (k + 1) (bys (cs (Dl.take (k + 1)))) := by rw [hs1.out]; exact hown7
      clear hown6 hbw6 hgrow hown7
      go_wp2
      go_roundw
      case rel => exact ⟨k + 1, S1, true, s1, by omega, by go_num, rfl, Lib.hid hS1.out.symm, hf1, hr7, hb7⟩
      case measure => simp [intOf]; omega
   ·obtain rfl : k = n := by omega
    have dl : decide ((k : Int) < (k : Int)) = false := decide_eq_false (by omega)
    have hTr := hT.out.below hb
    have z1 := (hTr.cost 0 0 (Nat.zero_le _) (by decide)).1
    have z2 := (hTr.cost 0 0 (Nat.zero_le _) (by decide)).2
    obtain ⟨C0, hC0⟩ : ∃ C, (rowE ((rc c).drop 0) 0).1 = C := ⟨_, rfl⟩
    obtain ⟨P0, hP0⟩ : ∃ C, (rowE ((rc c).drop 0) 0).2 = C := ⟨_, rfl⟩
    rw [hC0] at z1
    rw [hP0] at z2
    replace z1 : wr.cell? ⟨g, 0, none⟩ = some (.int .i64 C0) := z1
    replace z2 : wr.cell? ⟨g, 1, none⟩ = some (.int .i64 (P0 : Int)) := z2
    have hcv := fun N => conv_own (P := Tryz.prog) (dst := 9) Tryz.underlying53 Tryz.underlying5 Tryz.underlying9 (own_drewN hown N)
    have hcv0 := conv_own (P := Tryz.prog) (dst := 9) Tryz.underlying53 Tryz.underlying5 Tryz.underlying9 hown
    obtain ⟨b1, hb1⟩ : ∃ b, ((P0 : Int) == 1) = b := ⟨_, rfl⟩
    replace hC0 := Lib.hid hC0
    replace hP0 := Lib.hid hP0
    have i0 : (0 : Int) < (M : Int) := by omega
    clear hTr hown
    go_wp2_with fail
    go_quiet (fail)
    go_wp2
    exact bodyPost_ret (v := .tuple #[.string ⟨(cs (Dl.take k)).toArray⟩, .int .i64 C0, .bool b1, .int .i64 0]) (by simp [results, Tryz.results60, go_sem]) rfl ⟨by rw [hC0.out, hP0.out, hb1]; rfl, chainN (chain hB hb) nq⟩
 ·obtain ⟨g1, g2, g3⟩ := dS_err' he
  rw [g1, g2, g3]
  obtain ⟨k, hk⟩ : ∃ k, eB c = k := ⟨_, rfl⟩
  rw [hk] at cK he ⊢
  have d1 : (k != 0) = true := bne_iff_ne.2 he
  replace cK := Lib.hid cK
  clear g1 g2 g3 he hk
  go_enter Tryz.func60, Tryz.ntmps60
  go_wp2_with fail
  refine cK.out.mono ?_
  rintro e w1 ⟨rfl, rfl⟩
  go_wp2
  exact bodyPost_ret (by simp [results, Tryz.results60, go_sem]) rfl ⟨rfl, Below.refl _ _⟩
end V10
end Go.Proofs.YtiodkllckcpinaaGreatDoor
