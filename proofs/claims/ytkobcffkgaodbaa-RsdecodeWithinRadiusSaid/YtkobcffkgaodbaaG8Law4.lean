/- The walk of the law RsdecodeWithinRadius, under the package's contracts. -/
import Derived.Test.YtkobcffkgaodbaaG8Dmg
namespace Go.Proofs.Ytkobcffkgaodbaa.G8
open Go.Proofs.Ytkobcffkgaodbaa.G5
open Go.Proofs.Ytkobcffkgaodbaa.G7
open Go.Proofs.Ytkobcffkgaodbaa.G6 (IsSl sl_of_row)
open Go.RowKit Mem
set_option linter.unusedVariables false
set_option linter.unusedSimpArgs false

theorem IsBools.of_row {w : World} {a : Option Addr} {len cap : Nat} {bl : List Bool} (h : IsBoolRow w a len cap bl) : ∃ l : List Bool, l.length = len ∧ IsBools w a cap l := by
  rcases h with ⟨rfl, rfl, rfl, rfl⟩ | ⟨x, rfl, h1, h2, h3, h4⟩
  · exact ⟨[], rfl, Nat.le_refl _, by decide, fun _ => rfl, fun j h => by simp [bs] at h⟩
  · have hl : (bl.take len).length = len := by rw [List.length_take]; omega
    refine ⟨bl.take len, hl, by rw [hl]; exact h1, h2, (fun e => by cases e), fun j hj => ?_⟩
    rw [show (bs (bl.take len)).length = len by simp [bs]; omega] at hj
    obtain ⟨b, o, spot⟩ := x
    have h0 := h4 0 (by omega)
    have hspot : spot = none := by simpa [Addr.add] using World.cell?_spot h0
    subst hspot
    refine ⟨b, o, rfl, World.block_lt_of_cell? _ _ h0, ?_⟩
    have hc := h4 j (by omega)
    have e : (⟨b, o, none⟩ : Addr).add j = ⟨b, o + j, none⟩ := by
      by_cases h : j = 0
      · subst h; rfl
      · simp [Addr.add, h]
    rw [e] at hc
    rw [hc]
    simp [bs, List.getD_eq_getElem?_getD, List.getElem?_eq_getElem (show j < bl.length by omega)]
theorem dif_comm {u c : List R} (h : u.length = c.length) : dif u c = dif c u := by
  unfold dif
  rw [h]
  refine cnt_congr fun i _ => ?_
  unfold differ
  by_cases e : u.getD i 0 = c.getD i 0
  · rw [e]
  · rw [show (u.getD i 0 == c.getD i 0) = false from beq_eq_false_iff_ne.2 e, show (c.getD i 0 == u.getD i 0) = false from beq_eq_false_iff_ne.2 (Ne.symm e)]
theorem not_bad2 {N : Nat} {P : Nat} {l : List Int} (h1 : 1 ≤ P) (h2 : P ≤ 64) (h3 : P ≤ N) (h4 : N ≤ 255) (h : ∀ z ∈ l, 0 ≤ z ∧ z < (N : Int)) : ¬ Bad N (P : Int) l := by
  rintro (h | h | h | h | ⟨z, hz, hb⟩)
  · omega
  · omega
  · omega
  · omega
  · have := h z hz
    omega

set_option maxRecDepth 100000 in
set_option maxHeartbeats 2000000 in
theorem walk_withinradius (D : Dev) (s : ByteArray) (i1 : Int) (a2 : Option Addr) (n2 c2 : Nat) (z2 : List Int) (a3 : Option Addr) (n3 c3 : Nat) (z3 : List Int) (a4 : Option Addr) (n4 c4 : Nat) (z4 : List Bool) (w : World) (hs : s.size ≤ 140737488351232) (h1 : (Lit.int .u8 i1).wf = true) (hz2 : IsRow .u8 w a2 n2 c2 z2) (hz3 : IsRow .u8 w a3 n3 c3 z3) (hz4 : IsBoolRow w a4 n4 c4 z4) :
    Calls Try.prog 4 #[.string s, .int .u8 i1, .slice a2 n2 c2, .slice a3 n3 c3, .slice a4 n4 c4] w fun e w' => e = .returned (.bool true) ∧ Below w.heap.size w w' := by
  obtain ⟨q, hq, rfl⟩ := u8_nat h1
  obtain ⟨at_, l2, s2⟩ := sl_of_row hz2
  obtain ⟨by_, l3, s3⟩ := sl_of_row hz3
  obtain ⟨er, l4, s4⟩ := IsBools.of_row hz4
  obtain ⟨p, hp⟩ : ∃ p, 1 + q % 16 = p := ⟨_, rfl⟩
  have e1 : 1 + (q : Int) % 16 = (p : Int) := by omega
  have hp1 : 1 ≤ p := by omega
  have hp16 : p ≤ 16 := by omega
  have cA := Lib.hid (alive_any D w)
  have s2 := Lib.hid s2
  have s3 := Lib.hid s3
  have s4 := Lib.hid s4
  have l2 := Lib.hid l2
  have l3 := Lib.hid l3
  have l4 := Lib.hid l4
  clear h1 hz2 hz3 hz4 hp
  by_cases hd : s.size ≤ 40
  · have d1 : decide ((40 : Int) < (s.size : Int)) = false := decide_eq_false (by omega)
    have d1' : decide (40 < s.size) = false := decide_eq_false (by omega)
    by_cases hn : n2 ≤ 40
    · have d2 : decide ((40 : Int) < (n2 : Int)) = false := decide_eq_false (by omega)
      have d2' : decide (40 < n2) = false := decide_eq_false (by omega)
      have cE := Lib.hid (fun W => enc_own s p W hp1 (by omega) (by omega))
      go_enter Try.func4, Try.ntmps4
      go_wp2_with fail
      refine cA.out.mono ?_
      rintro e w1 ⟨rfl, hB⟩
      go_wp2_with fail
      refine (cE.out _).mono ?_
      rintro e w2 ⟨t, ht, rfl, hb⟩
      replace hB := chain hB hb
      have s2 := Lib.hid (s2.out.below hB)
      have s3 := Lib.hid (s3.out.below hB)
      have s4 := Lib.hid (s4.out.below hB)
      obtain ⟨C, hC⟩ : ∃ C, str (el s ++ t) = C := ⟨_, rfl⟩
      have eC : el s ++ t = el C := by rw [← hC, el_str]
      have hNs : C.size = s.size + p := by rw [← el_len, ← eC, List.length_append, el_len, ht.1]
      have hcw := ht.2
      rw [eC] at hcw
      have hcw := Lib.hid hcw
      have hNsh := Lib.hid hNs
      have cM := Lib.hid (damage_any C p n2 n3 n4 c2 c3 c4 a2 a3 a4 at_ by_ er w2 (by omega) (by omega) hp16 hn s2.out s3.out s4.out l2.out l3.out l4.out)
      rw [hC]
      clear hb ht hC eC hNs cA cE
      go_wp2_with fail
      refine cM.out.mono ?_
      rintro e w3 ⟨U, zs, lA, m, lc, hdm, hzl, hm40, rfl, hsl, hb⟩
      replace hB := chain hB hb
      have hUl := hdm.len
      have hUs : U.size = s.size + p := by rw [← el_len, hUl, el_len, hNsh.out]
      have cD := Lib.hid (D.decode (s := U) (p := (p : Int)) hsl hzl (by omega) (by omega) (by omega))
      have hfin : ∀ S n k', DecQ (el U) (p : Int) zs S n k' → S = C ∧ n = (dif (el C) (el U) : Int) ∧ k' = 0 := fun S n k' h => by
        have hr := hdm.range
        rw [← hUl] at hr
        obtain ⟨g1, g2, g3⟩ := (h.2 (by rw [el_len] at hr ⊢; exact not_bad2 hp1 (by omega) (by omega) (by omega) hr)).1 (el C) (by rw [Int.toNat_natCast]; exact ⟨hcw.out, hUl.symm, by have := hdm.rad; rw [hUl]; omega⟩)
        rw [dif_comm hUl] at g2
        exact ⟨by rw [g1, str_el], g2, g3⟩
      have hfin := Lib.hid hfin
      obtain ⟨Dn, hDn⟩ : ∃ Dn, dif (el C) (el U) = Dn := ⟨_, rfl⟩
      rw [hDn] at hfin ⊢
      clear hdm hzl hsl hUl hUs hDn cM hb
      go_wp2_with fail
      refine cD.out.mono ?_
      rintro e w4 ⟨S, n, k', hq', rfl, hb⟩
      obtain ⟨rfl, rfl, rfl⟩ := hfin.out S n k' hq'
      clear hq' cD
      go_wp2
      go_ret
      exact ⟨rfl, chain hB hb⟩
    · have d2 : decide ((40 : Int) < (n2 : Int)) = true := decide_eq_true (by omega)
      have d2' : decide (40 < n2) = true := decide_eq_true (by omega)
      go_enter Try.func4, Try.ntmps4
      go_wp2_with fail
      refine cA.out.mono ?_
      rintro e w1 ⟨rfl, hB⟩
      go_wp2
      go_ret
      exact ⟨rfl, hB⟩
  · have d1 : decide ((40 : Int) < (s.size : Int)) = true := decide_eq_true (by omega)
    have d1' : decide (40 < s.size) = true := decide_eq_true (by omega)
    go_enter Try.func4, Try.ntmps4
    go_wp2_with fail
    refine cA.out.mono ?_
    rintro e w1 ⟨rfl, hB⟩
    go_wp2
    go_ret
    exact ⟨rfl, hB⟩
end Go.Proofs.Ytkobcffkgaodbaa.G8
