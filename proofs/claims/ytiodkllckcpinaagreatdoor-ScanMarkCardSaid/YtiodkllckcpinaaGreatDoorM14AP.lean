/- Facts and contracts that the walks of this layer use, merged: G6OwnDs, G6OwnDiv, G6OwnAdd, G6OwnDer. -/
import Derived.Test.YtiodkllckcpinaaGreatDoorM14AI
import Derived.Test.YtiodkllckcpinaaGreatDoorM14AH
set_option linter.unusedVariables false
set_option linter.unusedSimpArgs false
set_option maxRecDepth 100000
namespace Go.Proofs.YtiodkllckcpinaaGreatDoor
namespace G6
open G5
open Go.RowKit Mem

theorem trim_app0 (l : List R) : ∀ m, trim (l ++ List.replicate m 0#8) = trim l
 | 0 => by simp
 | m + 1 => by rw [List.replicate_succ', ← List.append_assoc, show (0#8 : R) = 0 from rfl, trim_snoc0]; exact trim_app0 l m
theorem trim_short {l : List R} {I : Nat} (h : ∀ j, I ≤ j → l.getD j 0 = 0) : (trim l).length ≤ I := by
 have e : l = l.take I ++ List.replicate (l.length - I) 0#8 := by
  by_cases hI : I ≤ l.length
  ·refine eq_getD (by simp; omega) fun j hj => ?_
   rw [ad_zeros, getD_take]
   by_cases h1 : j < I
   ·rw [if_pos h1]
   ·rw [if_neg h1, h j (by omega)]
  ·rw [List.take_of_length_le (by omega), show l.length - I = 0 by omega]
   simp
 rw [e, trim_app0]
 have := trim_len (l.take I)
 rw [List.length_take] at this
 omega

structure DS (p Q : List R) (n0 nq t : Nat) (r d : List R) : Prop where
 lr : r.length = n0
 ld : d.length = nq
 val : ∀ x, ev p x = tms (ev d x) (ev Q x) ^^^ ev r x
 zr : ∀ j, n0 ≤ j + t → r.getD j 0 = 0
 zd : ∀ j, j + t < nq → d.getD j 0 = 0
 tr : t = 0 → r.getD (n0 - 1) 0 ≠ 0
 td : 0 < t → d.getD (nq - 1) 0 ≠ 0

def rj (r Q : List R) (a : Nat) (F : R) (j : Nat) : List R := ad r (List.replicate a 0#8 ++ sc F (Q.take j))
theorem sc_get (F : R) (l : List R) (j : Nat) : (sc F l).getD j 0 = tms F (l.getD j 0) := by
 by_cases h : j < l.length
 ·simp [sc, List.getD_eq_getElem?_getD, List.getElem?_eq_getElem h]
 ·rw [getD_far _ _ (by rw [sc_len]; omega), getD_far _ _ (by omega), tms_zero]
theorem rj_get (r Q : List R) (a : Nat) (F : R) (j m : Nat) : (rj r Q a F j).getD m 0 = r.getD m 0 ^^^ (if a ≤ m ∧ m < a + j then tms F (Q.getD (m - a) 0) else 0) := by
 unfold rj
 rw [ad_get]
 congr 1
 rw [getD_app, List.length_replicate, getD_zeros, sc_get, getD_take]
 by_cases h1 : m < a
 ·rw [if_pos h1, if_neg (by omega)]
 ·rw [if_neg h1]
  by_cases h2 : m < a + j
  ·rw [if_pos (show m - a < j by omega), if_pos ⟨by omega, h2⟩]
  ·rw [if_neg (show ¬ m - a < j by omega), if_neg (by omega), tms_zero]
theorem rj_len {r Q : List R} {a j n0 : Nat} {F : R} (hr : r.length = n0) (h : a + Q.length ≤ n0) : (rj r Q a F j).length = n0 := by
 unfold rj
 rw [ad_len, List.length_append, List.length_replicate, sc_len, List.length_take]
 omega
theorem rj_zero {r Q : List R} {a n0 : Nat} {F : R} (hr : r.length = n0) (h : a + Q.length ≤ n0) : rj r Q a F 0 = r :=
 eq_getD (by rw [rj_len hr h, hr]) fun j _ => by rw [rj_get, if_neg (by omega), xz]
theorem rj_step {r Q : List R} {a j n0 i : Nat} {F : R} (hr : r.length = n0) (h : a + Q.length ≤ n0) (hj : j < Q.length) (hi : i = a + j) :
  (rj r Q a F j).getD i 0 = r.getD i 0 ∧ (rj r Q a F j).set i (r.getD i 0 ^^^ tms F (Q.getD j 0)) = rj r Q a F (j + 1) := by
 refine ⟨by rw [rj_get, if_neg (by omega), xz], eq_getD (by rw [List.length_set, rj_len hr h, rj_len hr h]) fun m _ => ?_⟩
 rw [getD_set _ _ _ _ (by rw [rj_len hr h]; omega), rj_get, rj_get]
 by_cases e : m = i
 ·rw [if_pos e, if_pos (by omega), e, show i - a = j by omega]
 ·rw [if_neg e]
  congr 1
  by_cases e2 : a ≤ m ∧ m < a + j
  ·rw [if_pos e2, if_pos (by omega)]
  ·rw [if_neg e2, if_neg (by omega)]
theorem ev_rj (r Q : List R) (a : Nat) (F x : R) : ev (rj r Q a F Q.length) x = ev r x ^^^ tms (pw x a) (tms F (ev Q x)) := by
 unfold rj
 rw [List.take_length, ev_ad, show ev (List.replicate a 0#8 ++ sc F Q) x = tms (pw x a) (ev (sc F Q) x) from ev_shift a (sc F Q) x, ev_sc]

theorem DS.start {p q Q : List R} {n0 nq : Nat} (h0 : (trim p).length = n0) (hn : 0 < n0) : DS p Q n0 nq 0 (trim p) (List.replicate nq 0#8) := by
 refine ⟨h0, by simp, fun x => ?_, fun j hj => getD_far _ _ (by omega), fun j _ => getD_zeros _ _, fun _ => ?_, fun h => absurd h (Nat.lt_irrefl 0)⟩
 ·rw [show ev (List.replicate nq 0#8) x = 0 from ev_zeros nq x, zero_tms, zx, ev_trim]
 ·rcases trim_cases p with h | ⟨q, a, ha, h⟩
  ·rw [h] at h0
   simp at h0
   omega
  ·rw [h] at h0 ⊢
   have e : n0 - 1 = q.length := by simp at h0; omega
   rw [e, getD_last]
   exact ha
theorem DS.step {p Q r d : List R} {n0 nq t I a top : Nat} {X Y C F : R} (h : DS p Q n0 nq t r d) (hQ : Q.length = I + 1) (hn : nq + I = n0) (ha : a + t + 1 = nq) (htop : top = a + I)
  (hX : r.getD top 0 = X) (hY : Q.getD I 0 = Y) (hY0 : Y ≠ 0) (hC : iv Y = C) (hF : tms X C = F) : DS p Q n0 nq (t + 1) (rj r Q a F (I + 1)) (d.set a F) := by
 have hFY : tms F Y = X := by rw [← hF, ← hC, dv_all, tms_comm, tms_dv X hY0]
 have hal : a < d.length := by rw [h.ld]; omega
 have hda := h.zd a (by omega)
 refine ⟨rj_len h.lr (by omega), by rw [List.length_set]; exact h.ld, fun x => ?_, fun j hj => ?_, fun j hj => ?_, (fun e => by omega), fun _ => ?_⟩
 ·rw [← hQ, ev_rj, ev_set x F d a hal, hda, zx, h.val x, tms_a, tms_assoc]
  simp only [BitVec.xor_assoc, BitVec.xor_comm, xac, xcan, xs, xz, zx]
 ·rw [rj_get]
  by_cases e : j = top
  ·rw [if_pos (by omega), e, hX, show top - a = I by omega, hY, hFY, xs]
  ·rw [if_neg (by omega), xz]
   exact h.zr j (by omega)
 ·rw [getD_set _ _ _ _ hal, if_neg (by omega)]
  exact h.zd j (by omega)
 ·rw [getD_set _ _ _ _ hal]
  by_cases e : nq - 1 = a
  ·rw [if_pos e]
   intro hF0
   have hX0 := h.tr (by omega)
   rw [show n0 - 1 = top by omega, hX, ← hFY, hF0, zero_tms] at hX0
   exact hX0 rfl
  ·rw [if_neg e]
   exact h.td (by omega)
theorem DS.done {p q Q r d : List R} {n0 nq I : Nat} (h : DS p Q n0 nq nq r d) (hQ : Q.length = I + 1) (hn : nq + I = n0) (hq : 0 < nq) (hqQ : trim q = Q) (hp : n0 ≤ p.length) : Dvd p q d (trim r) := by
 refine ⟨?_, trim_trim r, ?_, by rw [h.ld]; omega, fun x => by rw [ev_trim, h.val x, ← hqQ, ev_trim]⟩
 ·obtain ⟨q', b, e⟩ := snoc_of (p := d) (fun e => by have := h.ld; rw [e] at this; simp at this; omega)
  have hb := h.td hq
  have hl := h.ld
  rw [e] at hb hl ⊢
  rw [show nq - 1 = q'.length by simp at hl; omega, getD_last] at hb
  exact Tr.snoc hb q'
 ·have := trim_short (l := r) (I := I) (fun j hj => h.zr j (by omega))
  rw [hqQ, hQ]
  omega
theorem Dvd.small {p q : List R} (h : (trim p).length < (trim q).length) : Dvd p q [] (trim p) :=
 ⟨Tr.nil, trim_trim p, h, Nat.zero_le _, fun x => by rw [ev_nil, zero_tms, zx, ev_trim]⟩
def Div1 (p q : List R) (w : World) (e : Ending) (w' : World) : Prop := ∃ (d r : List R) (A : Option Addr) (c : Nat) (B : Option Addr) (f : Nat), Dvd p q d r ∧
 e = .returned (.tuple #[.slice A d.length c, .slice B r.length f, .bool true]) ∧ IsSl w' A c d ∧ IsSl w' B f r ∧ Below w.heap.size w w'
end G6
namespace G6
open G5
open Go.RowKit Mem

set_option maxHeartbeats 8000000 in
theorem div1_own {A B : Option Addr} {c d : Nat} {p q : List R} {w : World} (h : IsSl w A c p) (h' : IsSl w B d q) (hp : p.length ≤ 100) (hq : q.length ≤ 100) (h0 : trim q ≠ []) :
  Calls Tryz.prog 204 #[.slice A p.length c, .slice B q.length d] w (Div1 p q w) := by
 have c1 := trim_own h' (by omega)
 have hQl := trim_len q
 have hpl := trim_len p
 obtain ⟨I, hI⟩ : ∃ I, (trim q).length = I + 1 := ⟨(trim q).length - 1, by have := List.length_pos_iff.2 h0; omega⟩
 have hQt := trim_trim q
 obtain ⟨Q, hQ⟩ : ∃ Q, trim q = Q := ⟨_, rfl⟩
 rw [hQ] at c1 hQl hI hQt
 have hY0 : Q.getD I 0 ≠ 0 := by
  obtain ⟨q0, Y, e⟩ := snoc_of (p := Q) (fun e => by rw [e] at hI; simp at hI)
  have hl := hI
  rw [e] at hQt hl ⊢
  rw [show I = q0.length by simp at hl; omega, getD_last]
  exact hQt.last
 obtain ⟨Y, hY⟩ : ∃ Y, Q.getD I 0 = Y := ⟨_, rfl⟩
 rw [hY] at hY0
 obtain ⟨C, hC⟩ : ∃ C, iv Y = C := ⟨_, rfl⟩
 obtain ⟨nQ, hnQ⟩ : ∃ nQ, nQ = I + 1 := ⟨_, rfl⟩
 obtain ⟨n0, hn0⟩ : ∃ n0, (trim p).length = n0 := ⟨_, rfl⟩
 rw [hn0] at hpl
 have hn0h := Lib.hid hn0
 have hQh := Lib.hid hQ
 have hIh := Lib.hid hI
 have hYh := Lib.hid hY
 have hY0h := Lib.hid hY0
 have hCh := Lib.hid hC
 have hph := Lib.hid h
 have hplh := Lib.hid hpl
 have hnQ100 : nQ ≤ 100 := by omega
 have hn100 : n0 ≤ 100 := by omega
 have hI100 : I < 100 := by omega
 have cI := fun W => inv_own Y W
 rw [hC, show (Y == 0#8) = false from by rw [beq_eq_false_iff_ne]; exact hY0] at cI
 replace cI := Lib.hid cI
 replace c1 := Lib.hid c1
 have hnQh := Lib.hid hnQ
 clear h h' h0 hQ hI hQl hpl hn0 hQt hY hY0 hC hnQ
 go_enter Tryz.func204, Tryz.ntmps204
 go_wp2_with fail
 refine c1.out.mono ?_
 rintro e w1 ⟨A2, d2, rfl, hs2, hb2⟩
 have hQn := Lib.hid (show Q.length = nQ by rw [hIh.out, hnQh.out])
 rw [hQn.out]
 have hne : ((nQ : Int) == 0) = false := by rw [beq_eq_false_iff_ne]; have := hnQh.out; omega
 obtain ⟨b1, o1, rfl, hbl1, hc1⟩ := hs2.read I (by have := hIh.out; omega)
 rw [hYh.out] at hc1
 have e1 : (nQ : Int) - 1 = (I : Int) := by have := hnQh.out; omega
 have i0 : (0 : Int) ≤ (I : Int) := by omega
 have i1 : (I : Int) < (nQ : Int) := by omega
 have cI1 := Lib.hid (cI.out w1)
 have hs2h := Lib.hid hs2
 clear hs2 cI c1
 go_wp2_with fail
 refine cI1.out.mono ?_
 rintro e w2 ⟨rfl, hb3⟩
 have cT := trim_row (hph.out.below (chain hb2 hb3)) (by omega)
 rw [hn0h.out] at cT
 replace cT := Lib.hid cT
 have hs3h := Lib.hid (hs2h.out.below hb3)
 have hbw2 := Lib.hid (chain hb2 hb3)
 clear hb2 hb3 hs2h cI1 hne hc1 hbl1 i0 i1
 go_wp2_with fail
 refine cT.out.mono ?_
 rintro e w3 ⟨rfl, hatR, hglR, hb4⟩
 clear cT
 obtain ⟨GR, hGR⟩ : ∃ GR, w2.heap.size = GR := ⟨_, rfl⟩
 rw [hGR] at hatR hglR ⊢
 have hGRh := Lib.hid hGR
 clear hGR
 by_cases hle : nQ ≤ n0
 ·obtain ⟨D, hD⟩ : ∃ D, n0 = D + nQ := ⟨n0 - nQ, by omega⟩
  obtain ⟨nq, hnq⟩ : ∃ nq, nq = D + 1 := ⟨_, rfl⟩
  have e2 : (n0 : Int) - (nQ : Int) = (D : Int) := by omega
  have e3 : (D : Int) + 1 = (nq : Int) := by omega
  have p0 : (0 : Int) < (nq : Int) := by omega
  have hD100 : D ≤ 100 := by omega
  have hnq100 : nq ≤ 101 := by omega
  have hmk := make_zeros w3 nq (by omega)
  have hatQ := zeros_at w3 nq (by omega)
  have ob := mb w3 (.cells (madeCells #[.int .u8 0] nq) 5)
  have hnI := Lib.hid (show nq + I = n0 by have := hnQh.out; omega)
  have hst := Lib.hid (DS.start (p := p) (q := q) (Q := Q) (nq := nq) hn0h.out (by omega))
  replace hD := Lib.hid hD
  replace hnq := Lib.hid hnq
  go_wp2
  clear hmk
  obtain ⟨GQ, hGQ⟩ : ∃ GQ, w3.heap.size = GQ := ⟨_, rfl⟩
  have hg0 := Lib.hid (show GR < (w3.alloc (.cells (madeCells #[.int .u8 0] nq) 5)).heap.size ∧ GQ < (w3.alloc (.cells (madeCells #[.int .u8 0] nq) 5)).heap.size by rw [← hGQ]; simp; omega)
  have hne := Lib.hid (show GR ≠ GQ ∧ w2.heap.size ≤ GR ∧ w2.heap.size ≤ GQ by have := hGRh.out; omega)
  have hatR := Lib.hid (hatR.below ob hglR)
  rw [hGQ] at hatQ ⊢
  replace hatQ := Lib.hid hatQ
  have hb5 := chain hb4 ob
  clear hGQ hglR hb4 ob e2 e3
  go_loopw [43] (fun a wr => ∃ (t : Nat) (r d : List R), t ≤ nq ∧ a = .int .i64 t ∧ Hid (DS p Q n0 nq t r d) ∧ Hid (VAt wr GR (rs r)) ∧ Hid (VAt wr GQ (rs d)) ∧ Hid (GR < wr.heap.size ∧ GQ < wr.heap.size) ∧ Below w2.heap.size w2 wr) (fun a _ => nq - (intOf a).toNat)
  case atStart => exact ⟨0, _, _, Nat.zero_le _, rfl, hst, hatR, hatQ, hg0, hb5⟩
  case round =>
   clear hst hatR hatQ hg0 hb5
   obtain ⟨t, r, dd, ht, rfl, hds, hatR, hatQ, hg, hb⟩ := hrel
   by_cases hlt : t < nq
   ·obtain ⟨M, hM⟩ : ∃ M, nq = M + 1 := ⟨nq - 1, by omega⟩
    obtain ⟨a, ha⟩ : ∃ a, M = a + t := ⟨M - t, by omega⟩
    obtain ⟨u, hu⟩ : ∃ u, u = a + nQ := ⟨_, rfl⟩
    obtain ⟨top, htop⟩ : ∃ top, top = a + I := ⟨_, rfl⟩
    have hnI' := hnI.out
    have hnQ' := hnQh.out
    have t1 : (t : Int) < (nq : Int) := by omega
    have e1 : (nq : Int) - 1 = (M : Int) := by omega
    have e2 : (M : Int) - (t : Int) = (a : Int) := by omega
    have e3 : (a : Int) + (nQ : Int) = (u : Int) := by omega
    have e4 : (u : Int) - 1 = (top : Int) := by omega
    have b0 : (0 : Int) ≤ (top : Int) := by omega
    have b1 : (top : Int) < (n0 : Int) := by omega
    have b2 : (0 : Int) ≤ (a : Int) := by omega
    have b3 : (a : Int) < (nq : Int) := by omega
    have hM100 : M ≤ 101 := by omega
    have ha100 : a ≤ 101 := by omega
    have hu100 : u ≤ 202 := by omega
    obtain ⟨hn1, hf1⟩ := VAt.readR hatR.out (k := top) (by rw [hds.out.lr]; omega)
    obtain ⟨hn2, hf2⟩ := VAt.readR hatQ.out (k := a) (by rw [hds.out.ld]; omega)
    obtain ⟨X, hX⟩ : ∃ X, r.getD top 0 = X := ⟨_, rfl⟩
    rw [hX] at hn1
    obtain ⟨V0, hV0⟩ : ∃ V0, dd.getD a 0 = V0 := ⟨_, rfl⟩
    rw [hV0] at hn2
    have cM := mul_own X C wr
    obtain ⟨F, hF⟩ : ∃ F, tms X C = F := ⟨_, rfl⟩
    rw [hF] at cM
    replace cM := Lib.hid cM
    have hstep := Lib.hid (DS.step hds.out hIh.out hnI' (by omega) htop hX hYh.out hY0h.out hCh.out hF)
    have hra := Lib.hid (show a + Q.length ≤ n0 by rw [hIh.out]; omega)
    have hlr := Lib.hid hds.out.lr
    have hat2 := Lib.hid (show VAt (wr.setCell ⟨GQ, a, none⟩ (bv F)) GQ (rs (dd.set a F)) from VAt.setR hatQ.out (k := a) (by rw [hds.out.ld]; omega) F)
    have hatR2 := Lib.hid (show VAt (wr.setCell ⟨GQ, a, none⟩ (bv F)) GR (rs (rj r Q a F 0)) by
     rw [rj_zero hlr.out hra.out]
     exact VAt.far hatR.out (fun e => hne.out.1 e.symm) _)
    have hg2 := Lib.hid (show GR < (wr.setCell ⟨GQ, a, none⟩ (bv F)).heap.size ∧ GQ < (wr.setCell ⟨GQ, a, none⟩ (bv F)).heap.size by simpa using hg.out)
    have hbq := hb.setCell (p := ⟨GQ, a, none⟩) hne.out.2.2 (bv F)
    have haI := Lib.hid (show a + t + 1 = nq by omega)
    clear hM ha hu htop hX hV0 hF hnI' hnQ' hatR hatQ hg hds
    go_wp2_with fail
    refine cM.out.mono ?_
    rintro e w9 ⟨rfl, rfl⟩
    go_wp2
    clear e1 e2 e3 e4 b0 b1 b3 hn1 hf1 hn2 hf2 hb cM
    go_loopw [67] (fun b wq => ∃ j : Nat, j ≤ nQ ∧ b = .int .i64 j ∧ Hid (VAt wq GR (rs (rj r Q a F j))) ∧ Hid (VAt wq GQ (rs (dd.set a F))) ∧ Hid (GR < wq.heap.size ∧ GQ < wq.heap.size) ∧ Below w2.heap.size w2 wq) (fun b _ => nQ - (intOf b).toNat)
    case atStart => exact ⟨0, Nat.zero_le _, rfl, hatR2, hat2, hg2, hbq⟩
    case round =>
     clear hatR2 hat2 hg2 hbq
     obtain ⟨j, hj, rfl, hatR, hatQ, hg, hb⟩ := hrel
     by_cases hlj : j < nQ
     ·obtain ⟨i, hi⟩ : ∃ i, i = a + j := ⟨_, rfl⟩
      have hjl : j < Q.length := by rw [hQn.out]; exact hlj
      obtain ⟨s1, s2⟩ := rj_step (F := F) hlr.out hra.out hjl hi
      have hrl := rj_len (j := j) (F := F) hlr.out hra.out
      have hin : i < n0 := by have := hra.out; omega
      obtain ⟨hn1, hf1⟩ := VAt.readR hatR.out (k := i) (by rw [hrl]; exact hin)
      rw [s1] at hn1
      obtain ⟨b4, o4, hA4, hbl4, hc4⟩ := (hs3h.out.below hb).read j hjl
      injection hA4 with hA4
      injection hA4 with hA5 hA6
      subst hA5 hA6
      obtain ⟨V, hV⟩ : ∃ V, Q.getD j 0 = V := ⟨_, rfl⟩
      obtain ⟨Z, hZ⟩ : ∃ Z, r.getD i 0 = Z := ⟨_, rfl⟩
      rw [hV] at hc4 s2
      rw [hZ] at hn1 s2
      have cM := fun W => (mul_own F V W).mono fun _ _ ⟨a, b⟩ => And.intro a b.symm
      obtain ⟨T, hT⟩ : ∃ T, tms F V = T := ⟨_, rfl⟩
      rw [hT] at cM s2
      have cA := fun W => (add_own Z T W).mono fun _ _ ⟨a, b⟩ => And.intro a b.symm
      obtain ⟨S, hS⟩ : ∃ S, Z ^^^ T = S := ⟨_, rfl⟩
      rw [hS] at cA s2
      replace cM := Lib.hid cM
      replace cA := Lib.hid cA
      have hatR2 := Lib.hid (show VAt (wr.setCell ⟨GR, i, none⟩ (bv S)).drew GR (rs (rj r Q a F (j + 1))) by
       have := (VAt.setR hatR.out (k := i) (by rw [hrl]; exact hin) S).drew
       rw [s2] at this
       exact this)
      have hatQ2 := Lib.hid (show VAt (wr.setCell ⟨GR, i, none⟩ (bv S)).drew GQ (rs (dd.set a F)) from (VAt.far hatQ.out hne.out.1 _).drew)
      have hg2 := Lib.hid (show GR < (wr.setCell ⟨GR, i, none⟩ (bv S)).drew.heap.size ∧ GQ < (wr.setCell ⟨GR, i, none⟩ (bv S)).drew.heap.size by simpa using hg.out)
      have hb2 := chainN (hb.setCell (p := ⟨GR, i, none⟩) hne.out.2.1 (bv S)) 1
      have j1 : (j : Int) < (nQ : Int) := by omega
      have j0 : (0 : Int) ≤ (j : Int) := by omega
      have e1 : (a : Int) + (j : Int) = (i : Int) := by omega
      have n0' : (0 : Int) ≤ (i : Int) := by omega
      have n1 : (i : Int) < (n0 : Int) := by omega
      have e2 : IntKind.i64.wrap (i : Int) = (i : Int) := by rw [IntKind.wrap_i64]; omega
      clear hatR hatQ hg hi hjl s1 s2 hrl hV hZ hT hS
      go_wp2_with fail
      refine wp_region_still_tail 18 (by kernel_rfl) (by kernel_rfl) ?_
      simp only [List.take_succ_cons, List.take_zero, List.drop_succ_cons, List.drop_zero]
      repeat still_step
      still_call (cM.out _)
      still_call (cA.out _)
      repeat still_step
      refine wpStill_nil ?_
      change wpList _ _ _ _ _ wr.drew
      go_wp2
      go_roundw
      case rel => exact ⟨j + 1, by omega, by go_num, hatR2, hatQ2, hg2, hb2⟩
      case measure => simp [intOf]; omega
     ·have j1 : ¬ (j : Int) < (nQ : Int) := by omega
      have hjI : j = I + 1 := by have := hnQh.out; omega
      rw [hjI] at hatR
      clear hjI
      go_wp2
      go_roundw
      case rel => exact ⟨t + 1, rj r Q a F (I + 1), dd.set a F, by omega, by go_num, hstep, hatR, hatQ, hg, hb⟩
      case measure => simp [intOf]; omega
   ·have t1 : ¬ (t : Int) < (nq : Int) := by omega
    have htn : t = nq := by omega
    rw [htn] at hds
    have hdv := Lib.hid (DS.done hds.out hIh.out hnI.out (by omega) hQh.out hplh.out)
    have hslR := Lib.hid (IsSl.of_at hatR.out hds.out.lr (by omega) hg.out.1)
    have hslQ := Lib.hid (IsSl.of_at hatQ.out hds.out.ld (by omega) hg.out.2)
    have hld := Lib.hid hds.out.ld
    have htl := trim_len r
    have hfr := trim_take r
    have cS := fun nn : Nat => (size_own (hslR.out.drewN nn) (by rw [hds.out.lr]; omega)).mono fun _ _ ⟨a, b⟩ => And.intro a b.symm
    rw [hds.out.lr] at cS htl
    obtain ⟨m, hm⟩ : ∃ m, (trim r).length = m := ⟨_, rfl⟩
    rw [hm] at cS htl hfr
    have hmn : (m : Int) ≤ (n0 : Int) := by omega
    have hmh := Lib.hid hm
    replace hfr := Lib.hid hfr
    replace cS := Lib.hid cS
    have hBB := chain hbw2.out hb
    clear hatR hatQ hg hds htl hm hb htn hlt
    go_wp2
    go_quiet ((go_at_call 153; exact Calls.quiet_of_same (cS.out _)))
    go_wp2
    go_ret3
    exact ⟨dd, trim r, _, _, _, _, hdv.out, by rw [hld.out, hmh.out]; rfl, hslQ.out.drewN nq, (hslR.out.front m hfr.out).drewN nq, chainN hBB nq⟩
 ·obtain ⟨z, hz⟩ : ∃ z : Int, (n0 : Int) - (nQ : Int) = z := ⟨_, rfl⟩
  obtain ⟨z1, hz1⟩ : ∃ z1 : Int, z + 1 = z1 := ⟨_, rfl⟩
  have zb : -200 ≤ z ∧ z ≤ 200 := by omega
  have zb1 := zb.1
  have zb2 := zb.2
  have p0 : ¬ (0 : Int) < z1 := by omega
  have hmk : (Instr.makeSlice 53 (.int .i64 0) (.int .i64 0)).run Tryz.prog w3 = .ok (.slice (some ⟨w3.heap.size, 0, none⟩) 0 0) (w3.alloc (.cells (madeCells #[.int .u8 0] 0) 5)) := make_zeros w3 0 (by decide)
  have hatQ := zeros_at w3 0 (by decide)
  have ob := mb w3 (.cells (madeCells #[.int .u8 0] 0) 5)
  have hdv := Lib.hid (Dvd.small (p := p) (q := q) (by rw [hn0h.out, hQh.out, hQn.out]; omega))
  have hslR := Lib.hid (IsSl.of_at (hatR.below ob hglR) hn0h.out (by omega) (Nat.lt_of_lt_of_le hglR ob.size))
  have hslQ := Lib.hid (IsSl.of_at (n := 0) hatQ (by simp) (by decide) (show w3.heap.size < _ by simp))
  have hBB := Lib.hid (chain (chain hbw2.out hb4) ob)
  clear zb hatR hglR hb4 hatQ ob hle
  go_wp2
  go_loopw [43] (fun a wr => a = .int .i64 0 ∧ wr = w3.alloc (.cells (madeCells #[.int .u8 0] 0) 5)) (fun a _ => 0)
  case atStart => exact ⟨rfl, rfl⟩
  case round =>
   obtain ⟨rfl, rfl⟩ := hrel
   have cS := fun nn : Nat => (size_own (hslR.out.drewN nn) (by rw [hn0h.out]; omega)).mono fun _ _ ⟨a, b⟩ => And.intro a b.symm
   have htt : (trim (trim p)).length = n0 := by rw [(trim_trim p).eq, hn0h.out]
   rw [htt, hn0h.out] at cS
   replace cS := Lib.hid cS
   clear htt
   go_wp2
   go_quiet ((go_at_call 153; exact Calls.quiet_of_same (cS.out _)))
   go_wp2
   go_ret3
   exact ⟨[], trim p, _, _, _, _, hdv.out, by rw [hn0h.out]; rfl, hslQ.out.drewN nq, hslR.out.drewN nq, chainN hBB.out nq⟩
end G6
namespace G6
open G5
open Go.RowKit Mem

theorem ad_step {P q : List R} {k n : Nat} (hP : P.length = n) (hq : q.length ≤ n) (hk : k < q.length) :
  (ad P (q.take k)).length = n ∧ (ad P (q.take k)).getD k 0 = P.getD k 0 ∧ (ad P (q.take k)).set k (P.getD k 0 ^^^ q.getD k 0) = ad P (q.take (k + 1)) := by
 have h1 : (ad P (q.take k)).length = n := by rw [ad_len, List.length_take]; omega
 have h2 : (ad P (q.take (k + 1))).length = n := by rw [ad_len, List.length_take]; omega
 refine ⟨h1, by rw [ad_get, getD_take, if_neg (by omega), xz], eq_getD (by rw [List.length_set, h1, h2]) fun j hj => ?_⟩
 rw [getD_set _ _ _ _ (by omega), ad_get, ad_get, getD_take, getD_take]
 by_cases e : j = k
 ·subst e
  rw [if_pos rfl, if_pos (by omega)]
 ·rw [if_neg e]
  by_cases e2 : j < k
  ·rw [if_pos e2, if_pos (by omega)]
  ·rw [if_neg e2, if_neg (by omega)]

set_option maxHeartbeats 2000000 in
theorem addP_own {A B : Option Addr} {c d : Nat} {p q : List R} {w : World} (h : IsSl w A c p) (h' : IsSl w B d q) (hp : p.length ≤ 1000) (hq : q.length ≤ 1000) :
  Calls Tryz.prog 205 #[.slice A p.length c, .slice B q.length d] w (Gives w (addL p q)) := by
 have hph := Lib.hid h
 have hqh := Lib.hid h'
 clear h h'
 obtain ⟨n, hn⟩ : ∃ n, max p.length q.length = n := ⟨_, rfl⟩
 obtain ⟨P, hP⟩ : ∃ P, p ++ List.replicate (n - p.length) 0#8 = P := ⟨_, rfl⟩
 have hPl : P.length = n := by rw [← hP]; simp; omega
 have hPg : ∀ j, P.getD j 0 = p.getD j 0 := fun j => by rw [← hP]; exact ad_zeros p _ j
 have hPe : p.take n ++ List.replicate (n - p.length) 0#8 = P := by rw [List.take_of_length_le (by omega)]; exact hP
 have hfin : ad P q = ad p q := eq_getD (by rw [ad_len, ad_len]; omega) fun j _ => by rw [ad_get, ad_get, hPg]
 have hn1000 : n ≤ 1000000 := by omega
 have hqn := Lib.hid (show q.length ≤ n by omega)
 have hnb : n ≤ 1000 := by omega
 have hPl := Lib.hid hPl
 have hPg := Lib.hid hPg
 have hPe := Lib.hid hPe
 have hfin := Lib.hid hfin
 obtain ⟨lp, hlp⟩ : ∃ lp, p.length = lp := ⟨_, rfl⟩
 obtain ⟨lq, hlq⟩ : ∃ lq, q.length = lq := ⟨_, rfl⟩
 rw [hlp] at hp ⊢
 rw [hlq] at hq ⊢
 have hlph := Lib.hid hlp
 have hlqh := Lib.hid hlq
 have two : (lp < lq ∧ lq = n) ∨ (¬ lp < lq ∧ lp = n) := by omega
 clear hP hn hlq hlp
 rcases two with ⟨ht, e⟩ | ⟨ht, e⟩
 all_goals
  have hmk := make_as w _ n e (by omega)
  have htI : (lp : Int) < (lq : Int) ↔ lp < lq := by omega
  clear e
  go_enter Tryz.func205, Tryz.ntmps205
  go_wp2_with (with_reducible refine wpList_copy_made rfl (.tmp 13) (.tmp 14) rfl n A lp c p hlph.out rfl rfl hph.out hn1000 ?_)
  intro w1 v hcp
  clear hmk ht htI
  obtain ⟨G, hG⟩ : ∃ G, w.heap.size = G := ⟨_, rfl⟩
  have hat := hcp.row
  rw [hPe.out, hG] at hat
  have hgl := hcp.lt
  have hb1 := hcp.below
  rw [hG] at hgl ⊢
  have hGh := Lib.hid hG
  clear hcp hG
  go_wp2
  go_loopw [18] (fun a wr => ∃ k : Nat, k ≤ lq ∧ a = .int .i64 k ∧ Hid (VAt wr G (rs (ad P (q.take k)))) ∧ Hid (G < wr.heap.size) ∧ Below w.heap.size w wr) (fun a _ => lq - (intOf a).toNat)
  case atStart => exact ⟨0, Nat.zero_le _, rfl, Lib.hid (by rw [List.take_zero, ad_nil]; exact hat), Lib.hid hgl, hb1⟩
  case round =>
   clear hat hgl hb1
   obtain ⟨k, hk, rfl, hat, hgl, hb⟩ := hrel
   by_cases hlt : k < lq
   ·obtain ⟨s1, s2, s3⟩ := ad_step (k := k) hPl.out hqn.out (by rw [hlqh.out]; exact hlt)
    obtain ⟨hn1, hf1⟩ := VAt.readR hat.out (k := k) (by have := hqn.out; have := hlqh.out; omega)
    obtain ⟨b2, o2, rfl, hbl2, hc2⟩ := (hqh.out.below hb).read k (by rw [hlqh.out]; exact hlt)
    rw [s2] at hn1
    obtain ⟨X, hX⟩ : ∃ X, P.getD k 0 = X := ⟨_, rfl⟩
    obtain ⟨Y, hY⟩ : ∃ Y, q.getD k 0 = Y := ⟨_, rfl⟩
    rw [hX] at hn1 s3
    rw [hY] at hc2 s3
    have cA := fun W => (add_own X Y W).mono fun _ _ ⟨a, b⟩ => And.intro a b.symm
    obtain ⟨S, hS⟩ : ∃ S, X ^^^ Y = S := ⟨_, rfl⟩
    rw [hS] at cA s3
    have cA := Lib.hid cA
    have hat2 := Lib.hid (show VAt (wr.setCell ⟨G, k, none⟩ (bv S)).drew G (rs (ad P (q.take (k + 1)))) by
     have := (VAt.setR hat.out (k := k) (by have := hqn.out; have := hlqh.out; omega) S).drew
     rw [s3] at this
     exact this)
    have hgl2 := Lib.hid (show G < (wr.setCell ⟨G, k, none⟩ (bv S)).drew.heap.size by simpa using hgl.out)
    have hb2 := chainN (hb.setCell (p := ⟨G, k, none⟩) (by rw [hGh.out]; exact Nat.le_refl _) (bv S)) 1
    have i1 : (k : Int) < (lq : Int) := by omega
    have i2 : (k : Int) < (n : Int) := by have := hqn.out; have := hlqh.out; omega
    have i0 : (0 : Int) ≤ (k : Int) := by omega
    clear hat hgl s1 s2 s3 hX hY hS
    go_wp2_with fail
    refine wp_region_still_tail 12 (by kernel_rfl) (by kernel_rfl) ?_
    simp only [List.take_succ_cons, List.take_zero, List.drop_succ_cons, List.drop_zero]
    repeat still_step
    still_call (cA.out _)
    repeat still_step
    refine wpStill_nil ?_
    change wpList _ _ _ _ _ wr.drew
    go_wp2
    go_roundw
    case rel => exact ⟨k + 1, by omega, by go_num, hat2, hgl2, hb2⟩
    case measure => simp [intOf]; omega
   ·have i1 : ¬ (k : Int) < (lq : Int) := by omega
    have hat2 := hat.out
    rw [List.take_of_length_le (by have := hlqh.out; omega), hfin.out] at hat2
    have hal : (ad p q).length = n := by rw [← hfin.out, ad_len, hPl.out]; have := hqn.out; omega
    have hsl := IsSl.of_at hat2 hal (by omega) hgl.out
    have cc := size_own hsl (by omega)
    rw [hal] at cc
    have hsl := Lib.hid hsl
    have hal := Lib.hid hal
    obtain ⟨m, hm⟩ : ∃ m, (trim (ad p q)).length = m := ⟨_, rfl⟩
    rw [hm] at cc
    have hmn : (m : Int) ≤ (n : Int) := by have := trim_len (ad p q); have := hal.out; omega
    have hmh := Lib.hid hm
    have cc := Lib.hid cc
    clear hm hat2 hat hgl
    go_wp2_with fail
    refine cc.out.mono ?_
    rintro e w2 ⟨rfl, rfl⟩
    go_wp2
    go_ret
    exact ⟨_, n, by rw [addL, hmh.out]; rfl, hsl.out.front m (by rw [← hmh.out]; exact trim_take _), hb⟩
end G6
namespace G6
open G5
open Go.RowKit Mem

def dRow (n : Nat) (p : List R) (k : Nat) : List R := ad (List.replicate n 0#8) (de (p.take k))
theorem dRow_len {n k : Nat} {p : List R} (hp : p.length = n) (hk : k ≤ n) : (dRow n p k).length = n := by
 unfold dRow
 rw [ad_len, List.length_replicate, de_len, List.length_take]
 omega
theorem dRow_get (n : Nat) (p : List R) (k j : Nat) : (dRow n p k).getD j 0 = if (j + 1) % 2 = 1 ∧ j + 1 < k then p.getD (j + 1) 0 else 0 := by
 unfold dRow
 rw [ad_get, getD_zeros, zx, de_get, getD_take]
 by_cases h1 : (j + 1) % 2 = 1 <;> by_cases h2 : j + 1 < k <;> simp [h1, h2]
theorem dRow_even {n k : Nat} {p : List R} (hp : p.length = n) (hk : k < n) (h : k % 2 = 0) : dRow n p (k + 1) = dRow n p k := by
 refine eq_getD (by rw [dRow_len hp (by omega), dRow_len hp (by omega)]) fun j _ => ?_
 rw [dRow_get, dRow_get]
 by_cases e : (j + 1) % 2 = 1 ∧ j + 1 < k
 ·rw [if_pos e, if_pos ⟨e.1, by omega⟩]
 ·rw [if_neg e, if_neg (fun e' => e ⟨e'.1, by omega⟩)]
theorem dRow_odd {n K : Nat} {p : List R} (hp : p.length = n) (hk : K + 1 < n) (h : (K + 1) % 2 = 1) : (dRow n p (K + 1)).set K (p.getD (K + 1) 0) = dRow n p (K + 1 + 1) := by
 refine eq_getD (by rw [List.length_set, dRow_len hp (by omega), dRow_len hp (by omega)]) fun j _ => ?_
 rw [getD_set _ _ _ _ (by rw [dRow_len hp (by omega)]; omega), dRow_get, dRow_get]
 by_cases e : j = K
 ·subst e
  rw [if_pos rfl, if_pos ⟨h, by omega⟩]
 ·rw [if_neg e]
  by_cases e2 : (j + 1) % 2 = 1 ∧ j + 1 < K + 1
  ·rw [if_pos e2, if_pos ⟨e2.1, by omega⟩]
  ·rw [if_neg e2, if_neg (fun e' => e2 ⟨e'.1, by omega⟩)]
theorem dRow_end {n : Nat} {p : List R} (hp : p.length = n) (hn : n ≤ 250) : trim (dRow n p n) = derL p := by
 have h1 := trim_len (dRow n p n)
 rw [dRow_len hp (Nat.le_refl _)] at h1
 refine eq_ev (trim_trim _) (derL_tr p) (by omega) (by have := derL_len p; omega) fun x => ?_
 unfold dRow derL
 rw [List.take_of_length_le (by omega), ev_trim, ev_trim, ev_ad, show ev (List.replicate n 0#8) x = 0 from ev_zeros n x, zx]
theorem dRow_zero (n : Nat) (p : List R) : dRow n p 0 = List.replicate n 0#8 := by
 unfold dRow
 rw [List.take_zero, show de [] = [] from List.eq_nil_of_length_eq_zero (by rw [de_len]; rfl), ad_nil]

set_option maxHeartbeats 2000000 in
theorem der_own {A : Option Addr} {c : Nat} {p : List R} {w : World} (h : IsSl w A c p) (hp : p.length ≤ 200) :
  Calls Tryz.prog 175 #[.slice A p.length c] w (Gives w (derL p)) := by
 have hph := Lib.hid h
 clear h
 obtain ⟨n, hn⟩ : ∃ n, p.length = n := ⟨_, rfl⟩
 rw [hn] at hp ⊢
 have hnh := Lib.hid hn
 have hmk := make_zeros w n (by omega)
 have hat := zeros_at w n (by omega)
 have hb1 := mb w (.cells (madeCells #[.int .u8 0] n) 5)
 clear hn
 go_enter Tryz.func175, Tryz.ntmps175
 go_wp2
 clear hmk
 obtain ⟨G, hG⟩ : ∃ G, w.heap.size = G := ⟨_, rfl⟩
 have hgl : G < (w.alloc (.cells (madeCells #[.int .u8 0] n) 5)).heap.size := by rw [← hG]; simp
 rw [hG] at hat ⊢
 have hGh := Lib.hid hG
 clear hG
 go_loopw [10] (fun a wr => ∃ k : Nat, k ≤ n ∧ a = .int .i64 k ∧ Hid (VAt wr G (rs (dRow n p k))) ∧ Hid (G < wr.heap.size) ∧ Below w.heap.size w wr) (fun a _ => n - (intOf a).toNat)
 case atStart => exact ⟨0, Nat.zero_le _, rfl, Lib.hid (by rw [dRow_zero]; exact hat), Lib.hid hgl, hb1⟩
 case round =>
  clear hat hgl hb1
  obtain ⟨k, hk, rfl, hat, hgl, hb⟩ := hrel
  by_cases hlt : k < n
  ·have i1 : (k : Int) < (n : Int) := by omega
   rcases Nat.mod_two_eq_zero_or_one k with hm | hm
   ·have t1 : (k : Int) % 2 = 0 := by omega
    have hat2 := Lib.hid (show VAt wr G (rs (dRow n p (k + 1))) by rw [dRow_even hnh.out hlt hm]; exact hat.out)
    clear hat hm
    go_wp2
    go_roundw
    case rel => exact ⟨k + 1, by omega, by go_num, hat2, hgl, hb⟩
    case measure => simp [intOf]; omega
   ·obtain ⟨K, hK⟩ : ∃ K, k = K + 1 := ⟨k - 1, by omega⟩
    have t1 : (k : Int) % 2 = 1 := by omega
    have hst := dRow_odd (p := p) (K := K) hnh.out (by omega) (by omega)
    rw [← hK] at hst
    obtain ⟨b2, o2, rfl, hbl2, hc2⟩ := (hph.out.below hb).read k (by rw [hnh.out]; exact hlt)
    have hKl : K < (dRow n p k).length := by rw [dRow_len hnh.out (by omega)]; omega
    obtain ⟨hn1, hf1⟩ := VAt.readR hat.out hKl
    obtain ⟨Y, hY⟩ : ∃ Y, p.getD k 0 = Y := ⟨_, rfl⟩
    obtain ⟨X, hX⟩ : ∃ X, (dRow n p k).getD K 0 = X := ⟨_, rfl⟩
    rw [hY] at hc2 hst
    rw [hX] at hn1
    have hat2 := Lib.hid (show VAt (wr.setCell ⟨G, K, none⟩ (bv Y)) G (rs (dRow n p (k + 1))) by
     have := VAt.setR hat.out hKl Y
     rw [hst] at this
     exact this)
    have hgl2 := Lib.hid (show G < (wr.setCell ⟨G, K, none⟩ (bv Y)).heap.size by simpa using hgl.out)
    have hb2 := hb.setCell (p := ⟨G, K, none⟩) (by rw [hGh.out]; exact Nat.le_refl _) (bv Y)
    have e1 : (k : Int) - 1 = (K : Int) := by omega
    have i2 : (K : Int) < (n : Int) := by omega
    have i0 : (0 : Int) ≤ (K : Int) := by omega
    clear hat hgl hm hK hst hKl hX hY
    go_wp2
    go_roundw
    case rel => exact ⟨k + 1, by omega, by go_num, hat2, hgl2, hb2⟩
    case measure => simp [intOf]; omega
  ·have i1 : ¬ (k : Int) < (n : Int) := by omega
   have hkn : k = n := by omega
   have hat2 := hat.out
   rw [hkn] at hat2
   have hal := dRow_len (p := p) hnh.out (Nat.le_refl n)
   have hsl := IsSl.of_at hat2 hal (by omega) hgl.out
   have cc := size_own hsl (by omega)
   have hmd := dRow_end (p := p) hnh.out (by omega)
   have htl := trim_len (dRow n p n)
   rw [hal, hmd] at cc
   rw [hmd, hal] at htl
   have hfr := trim_take (dRow n p n)
   rw [hmd] at hfr
   have hsl := Lib.hid hsl
   obtain ⟨m, hm⟩ : ∃ m, (derL p).length = m := ⟨_, rfl⟩
   rw [hm] at cc htl hfr
   have hmn : (m : Int) ≤ (n : Int) := by omega
   have hmh := Lib.hid hm
   have hfr := Lib.hid hfr
   have cc := Lib.hid cc
   clear hm hat2 hat hgl hal hmd htl hkn
   go_wp2_with fail
   refine cc.out.mono ?_
   rintro e w2 ⟨rfl, rfl⟩
   go_wp2
   go_ret
   exact ⟨_, n, by rw [hmh.out]; rfl, hsl.out.front m hfr.out, hb⟩
end G6
end Go.Proofs.YtiodkllckcpinaaGreatDoor
