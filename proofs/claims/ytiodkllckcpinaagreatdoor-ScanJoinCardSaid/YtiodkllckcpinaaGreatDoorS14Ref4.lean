/- The contract of the reference's Pieces of layer 14 (written by gen/s14ref4.py). -/
import Derived.Test.YtiodkllckcpinaaGreatDoorM14BE
set_option linter.unusedVariables false
set_option linter.unusedSimpArgs false
set_option maxRecDepth 100000
namespace Go.Proofs.YtiodkllckcpinaaGreatDoor
namespace S14
open Go.RowKit Mem F13

def tg (k i : Nat) (l : List Sg) : List (Nat × Sg) := (l.take i).map (fun s => (k, s)) ++ (l.drop i).map (fun s => (0, s))
theorem tg_zero (k : Nat) (l : List Sg) : tg k 0 l = l.map fun s => (0, s) := rfl
theorem tg_len (k i : Nat) (l : List Sg) : (tg k i l).length = l.length := by
 unfold tg
 rw [List.length_append, List.length_map, List.length_map, ← List.length_append, List.take_append_drop]
theorem tg_get {k i : Nat} {l : List Sg} (h : i < l.length) : (tg k (i + 1) l)[i]'(by rw [tg_len]; exact h) = (k, l[i]) := by
 unfold tg
 rw [List.getElem_append_left (by rw [List.length_map, List.length_take]; omega), List.getElem_map, List.getElem_take]
theorem tg_set {k i : Nat} {l : List Sg} (h : i < l.length) : (sgsC (tg k i l)).set (i * 14) (.int .i64 (k : Int)) = sgsC (tg k (i + 1) l) := by
 unfold tg
 rw [List.drop_eq_getElem_cons h, List.take_succ_eq_append_getElem h, List.map_cons, List.map_append]
 have e : ∀ (A B : List (Nat × Sg)), sgsC (A ++ B) = sgsC A ++ sgsC B := fun A B => by simp [sgsC]
 have e1 : ∀ (p : Nat × Sg) (B : List (Nat × Sg)), sgsC (p :: B) = sgC p ++ sgsC B := fun p B => rfl
 have hl : (sgsC ((l.take i).map fun s => (k, s))).length = i * 14 := by rw [sgsC_len, List.length_map, List.length_take]; congr 1; omega
 rw [e, e1, List.set_append_right _ _ (by omega), hl, Nat.sub_self, List.append_assoc, e]
 rfl
theorem own_vat {w : World} {base n size g cap : Nat} {e : TypeId} {xs : List Value} (h : w.ownsRow base e size (.slice (some ⟨g, 0, none⟩) n cap) n xs) : VAt w g xs := fun j hj => by
 have hc := h.cells (g := g) rfl j _ (List.getElem?_eq_getElem hj)
 rw [add_at] at hc
 refine ⟨hc, ?_⟩
 rcases h.2 with ⟨e, _⟩ | ⟨g', c', cur, e, _, hh, _⟩
 ·cases e
 ·injection e with e
  injection e with e
  injection e with e1
  subst e1
  simp [World.frozen?, hh]
theorem vat_grown {W W' : World} {g : Nat} {l : List Value} {row : Option Nat} (h : VAt W g l) (hg : W.grownBy W' row) (hlt : g < W.heap.size) (hne : some g ≠ row) : VAt W' g l := fun j hj => by
 have := h j hj
 exact ⟨(World.cell?_of_block (a := ⟨g, j, none⟩) (hg.block g hlt hne)).trans this.1, (World.frozen?_of_block (a := ⟨g, j, none⟩) (hg.block g hlt hne)).trans this.2⟩
theorem grown_set (W : World) (b i : Nat) (v : Value) : W.grownBy (W.setCell ⟨b, i, none⟩ v) (some b) :=
 ⟨rfl, rfl, rfl, by simp [World.setCell], fun k _ hk => Below.heap_setCell _ _ _ _ (fun e => hk (by simp [e]))⟩
def RowV (W : World) (A : Option Addr) (L : List (Nat × Sg)) : Prop := (A = none → L = []) ∧ ∀ g o sp, A = some ⟨g, o, sp⟩ → o = 0 ∧ sp = none ∧ g < W.heap.size ∧ VAt W g (sgsC L)
theorem rowV_of {w : World} {base n : Nat} {e : TypeId} {v : Value} {L : List (Nat × Sg)} (h : w.ownsRow base e 14 v n (sgsC L)) : n = L.length ∧ ∃ A cap, v = .slice A L.length cap ∧ RowV w A L ∧ ∀ g o sp, A = some ⟨g, o, sp⟩ → base ≤ g := by
 have hn : n = L.length := by have := h.1; rw [sgsC_len] at this; omega
 subst hn
 refine ⟨rfl, ?_⟩
 rcases h.2 with ⟨rfl, h0⟩ | ⟨g, cap, cur, rfl, hg, hh, _⟩
 ·have : L = [] := List.eq_nil_of_length_eq_zero h0
  subst this
  exact ⟨none, 0, rfl, ⟨fun _ => rfl, fun g o sp e => by cases e⟩, fun g o sp e => by cases e⟩
 ·refine ⟨some ⟨g, 0, none⟩, cap, rfl, ⟨(fun e => by cases e), fun g' o sp e => ?_⟩, fun g' o sp e => ?_⟩
  ·injection e with e
   injection e with e1 e2 e3
   subst e1 e2 e3
   exact ⟨rfl, rfl, (h.lt g rfl).2, own_vat h⟩
  ·injection e with e
   injection e with e1 e2 e3
   subst e1
   exact hg
theorem at14_of {W : World} {g : Nat} {L : List (Nat × Sg)} (h : VAt W g (sgsC L)) {i : Nat} (hi : i < L.length) {p : Nat × Sg} (hp : L[i] = p) : At14 W g (i * 14) p := by
 subst hp
 have hg : ∀ (j : Nat), j < 14 → ∀ (u : Value), (sgC L[i])[j]? = some u → W.cell? ⟨g, i * 14 + j, none⟩ = some u := fun j hj u hu => by
  have e := sgsC_get L i j hi hj
  rw [hu] at e
  obtain ⟨hlt, e2⟩ := List.getElem?_eq_some_iff.1 e
  have := (h (i * 14 + j) hlt).1
  rwa [e2] at this
 exact ⟨hg 0 (by decide) _ rfl, hg 1 (by decide) _ rfl, hg 2 (by decide) _ rfl, hg 3 (by decide) _ rfl, hg 4 (by decide) _ rfl, hg 5 (by decide) _ rfl, hg 6 (by decide) _ rfl, hg 7 (by decide) _ rfl, hg 8 (by decide) _ rfl, hg 9 (by decide) _ rfl, hg 10 (by decide) _ rfl, hg 11 (by decide) _ rfl, hg 12 (by decide) _ rfl, hg 13 (by decide) _ rfl⟩
theorem take_snoc (pre : List (Nat × Sg)) {k i : Nat} {l : List Sg} (h : i < l.length) : sgsC (pre ++ (l.take (i + 1)).map fun s => (k, s)) = sgsC (pre ++ (l.take i).map fun s => (k, s)) ++ sgC (k, l[i]) := by
 rw [List.take_succ_eq_append_getElem h, List.map_append, ← List.append_assoc, List.map_cons, List.map_nil, sgsC_snoc]
set_option maxHeartbeats 16000000 in
theorem rpieces_any (cs : List ByteArray) (A : Option Addr) (cap : Nat) (w : World) (hn : cs.length ≤ 10) (hcs : ∀ c ∈ cs, c.size ≤ 1000000) (hrd : Rd w A (cs.map Value.string)) :
  Calls Tryz.prog 16 #[.slice A cs.length cap] w (PsP cs w) := by
 obtain ⟨i0, hi, hz0, hz1, hz2⟩ := info_parts infoS
 have hgoal : ∀ (L : List (Nat × Sg)) (v : Value) (w' : World), Scans 0 cs L → L.length ≤ 10000010 → w'.ownsRow w.heap.size 48 14 v L.length (sgsC L) → Below w.heap.size w w' → PsP cs w (.returned v) w' := fun L v w' h1 h2 h3 h4 => ⟨L, v, h1, h2, rfl, h3, h4⟩
 have hstart := UptoS.start cs
 have hstep := fun (k : Nat) (pre : List (Nat × Sg)) (l : List Sg) (h : UptoS cs k pre) (hk : k < cs.length) hl => h.step hk hl (l := l)
 have hdone := fun (pre : List (Nat × Sg)) (h : UptoS cs cs.length pre) => h.done
 have hone : ∀ k (h : k < cs.length), (cs[k]).size ≤ 1000000 := fun k h => hcs _ (List.getElem_mem h)
 have hread : ∀ k (h : k < cs.length), ∃ b o : Nat, A = some ⟨b, o, none⟩ ∧ b < w.heap.size ∧ w.cell? ⟨b, o + k, none⟩ = some (.string cs[k]) := fun k h => by
  obtain ⟨b, o, e, hb, hc⟩ := hrd k (by simpa using h)
  exact ⟨b, o, e, hb, by rw [hc]; simp⟩
 obtain ⟨P, hP⟩ : ∃ P, PsP cs w = P := ⟨_, rfl⟩
 rw [hP] at hgoal ⊢
 replace hgoal := Lib.hid hgoal
 replace hstart := Lib.hid hstart
 replace hstep := Lib.hid hstep
 replace hdone := Lib.hid hdone
 replace hone := Lib.hid hone
 replace hread := Lib.hid hread
 replace hn := Lib.hid hn
 have hr0 : (w.alloc (.cells #[] 48)).ownsRow w.heap.size 48 14 (.slice (some ⟨w.heap.size, 0, none⟩) 0 0) 0 [] := World.ownsRow_made w #[] 0 (Nat.le_refl _) (by decide) (by simp)
 have hB0 : Below w.heap.size w (w.alloc (.cells #[] 48)) := (Below.refl _ _).alloc (Nat.le_refl _) _
 clear hP hcs hrd
 show Calls _ _ _ _ (fun e w' => P e w')
 go_enter Tryz.func16, Tryz.ntmps16
 go_wp2
 go_loopw [3, 4] (fun ov kv wr => ∃ (k : Nat) (pre : List (Nat × Sg)), kv = .int .i64 (k : Int) ∧ k ≤ cs.length ∧ Hid (UptoS cs k pre) ∧ Hid (pre.length ≤ k * 1000001) ∧ wr.ownsRow w.heap.size 48 14 ov pre.length (sgsC pre) ∧ Below w.heap.size w wr) (fun _ kv _ => cs.length - (intOf kv).toNat)
 case atStart => exact ⟨0, [], rfl, Nat.zero_le _, hstart, Lib.hid (Nat.zero_le _), hr0, hB0⟩
 case round =>
  clear hr0 hB0 hstart
  obtain ⟨k, pre, rfl, hk, hU, hpl, hrow, hB⟩ := hrel
  by_cases hlt : k < cs.length
  ·obtain ⟨b, o, rfl, hbs, hce⟩ := hread.out k hlt
   have hcc := (hB.cell (p := ⟨b, o + k, none⟩) hbs).trans hce
   have hck := hone.out k hlt
   have hst := fun l hl => hstep.out k pre l hU.out hlt hl
   obtain ⟨c, hc⟩ : ∃ c, cs[k] = c := ⟨_, rfl⟩
   rw [hc] at hcc hck hst
   have cP := fun W => rpiece_any c W hck
   unfold PcP at cP
   replace cP := Lib.hid cP
   have dk : decide ((k : Int) < (cs.length : Int)) = true := decide_eq_true (by omega)
   have dk' : decide (k < cs.length) = true := decide_eq_true hlt
   have k0 : (0 : Int) ≤ (k : Int) := by omega
   have k1 : (k : Int) < (cs.length : Int) := by omega
   have kk : (k : Int) ≤ 10 := by have := hn.out; omega
   have hk10 := Lib.hid (show k ≤ 10 by have := hn.out; omega)
   have hklt := Lib.hid hlt
   replace hst := Lib.hid hst
   replace hck := Lib.hid hck
   clear hc hce hU hk hlt
   go_wp2_with fail
   refine (cP.out _).mono ?_
   rintro e w1 ⟨l, v, hS, rfl, hr, hb1⟩
   obtain ⟨hll, Av, capv, rfl, hRV, hge⟩ := rowV_of hr
   rw [List.length_map] at hll ⊢
   have hlen := hS.len
   have hrow1 := own_below hrow hb1
   have hB1 := hB.trans (hb1.mono hB.size)
   obtain ⟨ov, hov⟩ : ∃ v, u3 = v := ⟨_, rfl⟩
   rw [hov] at hrow hrow1 ⊢
   have hne : ∀ g o sp, Av = some ⟨g, o, sp⟩ → ov.ownBlock ≠ some g := fun g o sp e hb => by
    have h1 := hge g o sp e
    have h2 := (hrow.lt g hb).2
    omega
   rw [← tg_zero k l] at hRV
   have hgb := Lib.hid (fun g o sp (e : Av = some ⟨g, o, sp⟩) => Nat.le_trans hB.size (hge g o sp e))
   have hU2 := Lib.hid (hst.out l hS)
   have hl6 : Hid (l.length ≤ 1000000) := Lib.hid (by have := hck.out; omega)
   have hlI : (l.length : Int) ≤ 1000000 := by have := hl6.out; omega
   have hr1 : w1.ownsRow w.heap.size 48 14 ov (pre.length + 0) (sgsC (pre ++ (l.take 0).map fun s => (k, s))) := by simpa using hrow1
   replace hne := Lib.hid hne
   replace hRV := Lib.hid hRV
   clear hr hge hrow hrow1 hB hb1 hcc hst hS hlen hll cP hov
   go_wp2
   go_loopw [3, 6] (fun ov iv wr => ∃ (i : Nat), iv = .int .i64 (i : Int) ∧ i ≤ l.length ∧ wr.ownsRow w.heap.size 48 14 ov (pre.length + i) (sgsC (pre ++ (l.take i).map fun s => (k, s))) ∧ Hid (RowV wr Av (tg k i l)) ∧ Hid (∀ g o sp, Av = some ⟨g, o, sp⟩ → ov.ownBlock ≠ some g) ∧ Below w.heap.size w wr ∧ Hid (w1.heap.size ≤ wr.heap.size)) (fun _ iv _ => l.length - (intOf iv).toNat)
   case atStart => exact ⟨0, rfl, Nat.zero_le _, hr1, hRV, hne, hB1, Lib.hid (Nat.le_refl _)⟩
   case round =>
    clear hr1 hRV hne hB1
    obtain ⟨i, rfl, hil, hrow, hRV, hne, hB, hw1⟩ := hrel
    by_cases hlt : i < l.length
    ·obtain ⟨g, rfl⟩ : ∃ g, Av = some ⟨g, 0, none⟩ := by
      rcases Av with _ | ⟨g, o', sp⟩
      ·have h0 := hRV.out.1 rfl
       have : (tg k i l).length = 0 := by rw [h0]; rfl
       rw [tg_len] at this
       omega
      ·obtain ⟨rfl, rfl, _⟩ := hRV.out.2 g o' sp rfl
       exact ⟨g, rfl⟩
     obtain ⟨_, _, hg, hV⟩ := hRV.out.2 g 0 none rfl
     have hng := hne.out g 0 none rfl
     have hi14 : i * 14 < (sgsC (tg k i l)).length := by rw [sgsC_len, tg_len]; omega
     have hz := hV (i * 14) hi14
     have hV2 := hV.set hi14 (.int .i64 (k : Int))
     rw [tg_set hlt] at hV2
     have hgr := grown_set wr g (i * 14) (.int .i64 (k : Int))
     have hrow2 := hrow.kept hgr (.inr hng)
     have hgw := hgb.out g 0 none rfl
     have hB2 : Below w.heap.size w (wr.setCell ⟨g, i * 14, none⟩ (.int .i64 (k : Int))) := hB.setCell (p := ⟨g, i * 14, none⟩) hgw _
     obtain ⟨old, ho1⟩ : ∃ v, wr.cell? ⟨g, i * 14, none⟩ = some v := ⟨_, hz.1⟩
     have ho2 := hz.2
     have h14 := at14_of hV2 (i := i) (by rw [tg_len]; exact hlt) (tg_get hlt)
     have hsn := take_snoc pre (k := k) hlt
     obtain ⟨WS, hWS⟩ : ∃ W, wr.setCell ⟨g, i * 14, none⟩ (.int .i64 (k : Int)) = W := ⟨_, rfl⟩
     have hgS : g < WS.heap.size := by rw [← hWS]; simpa using hg
     rw [hWS] at hV2 hrow2 hB2 h14
     have hone := sgC_one (k, l[i])
     obtain ⟨⟨at_, ⟨kind, reel, sess, idx, len, data, spare, arch, pay⟩, d, u, n⟩, hp⟩ : ∃ p, l[i] = p := ⟨_, rfl⟩
     rw [hp] at h14 hsn hone
     simp only [sgC, Fr.cells, List.cons_append, List.nil_append] at hone hsn
     obtain ⟨c0, c1, c2, c3, c4, c5, c6, c7, c8, c9, ca, cb, cc, cd⟩ := h14
     dsimp only at c0 c1 c2 c3 c4 c5 c6 c7 c8 c9 ca cb cc cd
     have e1 : pre.length + i + 1 ≤ maxLen := by have := hpl.out; have := hl6.out; have := hk10.out; unfold maxLen; omega
     have e2 : (pre.length + i + 1) * 120 ≤ 140737488355328 := by have := hpl.out; have := hl6.out; have := hk10.out; omega
     have e3 : ∀ o, w.heap.size ≤ (WS.alloc o).heap.size := fun o => by have := hB2.size; simp; omega
     have di : decide ((i : Int) < (l.length : Int)) = true := decide_eq_true (by omega)
     have di' : decide (i < l.length) = true := decide_eq_true hlt
     have i0' : (0 : Int) ≤ (i : Int) := by omega
     have i1 : (i : Int) < (l.length : Int) := by omega
     have ii : (i : Int) ≤ 1000000 := by omega
     have hng2 := Lib.hid hng
     have hV3 := Lib.hid hV2
     have hgS2 := Lib.hid hgS
     have hsn2 := Lib.hid hsn
     have hwS : Hid (w1.heap.size ≤ WS.heap.size) := Lib.hid (by have := hw1.out; rw [← hWS]; simpa using this)
     clear hp hi14 hV hV2 hgr hrow hB hz hRV hne hng hgS hsn hw1 hg
     go_wp2_with (at_builtin; refine wpList_append_own_at _ rfl _ _ 30 rfl w.heap.size 48 i0 (.agg #[.int .i64 0, .int .i64 0, .int .i64 0, .int .i64 0, .int .i64 0, .int .i64 0, .int .i64 0, .int .i64 0, .int .i64 0, .int .u32 0, .string ⟨#[]⟩, .int .i64 0, .int .i64 0, .int .i64 0]) 14 120 Tryz.underlying30 hi hz0 hz1 hz2 rfl (by decide) _ _ _ rfl (hrow2.alloc _) ⟨WS.heap.size, 0, none⟩ 1 1 [.int .i64 (k : Int), .int .i64 (at_ : Int), .int .i64 kind, .int .i64 reel, .int .i64 sess, .int .i64 idx, .int .i64 len, .int .i64 data, .int .i64 spare, .int .u32 (arch.toNat : Int), .string pay, .int .i64 d, .int .i64 u, .int .i64 n] rfl rfl (list_new _ _ _) hone e1 e2 (e3 _) ?_; intro v' w3 hown' hgrow _ hat)
     have hB3 := grown_below (hB2.alloc hB2.size _) (e3 _) (hrow2.alloc _) hgrow
     have hlt2 := hgS2.out
     have hV4 : RowV w3 (some ⟨g, 0, none⟩) (tg k (i + 1) l) := ⟨(fun e => by cases e), fun g' o sp e => by
      injection e with e
      injection e with e1 e2 e3
      subst e1 e2 e3
      refine ⟨rfl, rfl, Nat.lt_of_lt_of_le hlt2 (Nat.le_trans (by simp) hgrow.size), ?_⟩
      exact vat_grown (vat_grown hV3.out (World.grownBy_alloc WS _ none) hlt2 (by simp)) hgrow (by simp; omega) (fun e => hng2.out e.symm)⟩
     have hne4 : ∀ g' o sp, (some ⟨g, 0, none⟩ : Option Addr) = some ⟨g', o, sp⟩ → v'.ownBlock ≠ some g' := fun g' o sp e => by
      injection e with e
      injection e with e1
      subst e1
      rcases hat with h | h
      ·rw [h]; exact hng2.out
      ·rw [h]
       intro e
       injection e with e
       simp at e
       omega
     have hw3 : w1.heap.size ≤ w3.heap.size := Nat.le_trans hwS.out (Nat.le_trans (by simp) hgrow.size)
     go_roundw
     case rel => exact ⟨i + 1, by go_num, by omega, by rw [hsn2.out, ← Nat.add_assoc]; exact hown', Lib.hid hV4, Lib.hid hne4, hB3, Lib.hid hw3⟩
     case measure => simp [intOf]; omega
    ·obtain rfl : i = l.length := by omega
     have di : decide ((l.length : Int) < (l.length : Int)) = false := decide_eq_false (by omega)
     have di' : decide (l.length < l.length) = false := decide_eq_false (by omega)
     have hpl2 : (pre ++ l.map fun s => (k, s)).length ≤ (k + 1) * 1000001 := by
      rw [List.length_append, List.length_map]
      have := hpl.out
      have := hl6.out
      omega
     rw [List.take_of_length_le (Nat.le_refl _)] at hrow
     have hrow3 : wr.ownsRow w.heap.size 48 14 u3 (pre ++ l.map fun s => (k, s)).length (sgsC (pre ++ l.map fun s => (k, s))) := by
      rw [List.length_append, List.length_map]
      exact hrow
     replace hpl2 := Lib.hid hpl2
     have hk2 := hklt.out
     clear hrow hRV hne hw1 hil hlt
     go_wp2
     go_roundw
     case rel => exact ⟨k + 1, _, by go_num, hk2, hU2, hpl2, hrow3, hB⟩
     case measure => simp [intOf]; omega
  ·obtain rfl : k = cs.length := by omega
   have dk : decide ((cs.length : Int) < (cs.length : Int)) = false := decide_eq_false (by omega)
   have dk' : decide (cs.length < cs.length) = false := decide_eq_false (by omega)
   have hpl2 : pre.length ≤ 10000010 := by have := hn.out; have := hpl.out; omega
   have hfin := Lib.hid (hgoal.out pre _ wr (hdone.out pre hU.out) hpl2 hrow hB)
   clear hgoal hdone hstep hone hread hk hU hpl hlt hpl2 hrow hB
   go_wp2
   first | go_ret | skip
   exact hfin.out
end S14
end Go.Proofs.YtiodkllckcpinaaGreatDoor
