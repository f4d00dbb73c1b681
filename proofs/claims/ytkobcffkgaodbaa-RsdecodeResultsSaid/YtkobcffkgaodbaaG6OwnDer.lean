/- The contract of the landed Derivative. -/
import Derived.Test.YtkobcffkgaodbaaG6OwnEv
namespace Go.Proofs.Ytkobcffkgaodbaa.G6
open Go.Proofs.Ytkobcffkgaodbaa.G5
open Go.RowKit Mem
set_option linter.unusedVariables false
set_option linter.unusedSimpArgs false

/-- The row behind k rounds. -/
def dRow (n : Nat) (p : List R) (k : Nat) : List R := ad (List.replicate n 0#8) (de (p.take k))
theorem dRow_len {n k : Nat} {p : List R} (hp : p.length = n) (hk : k ≤ n) : (dRow n p k).length = n := by
  unfold dRow
  rw [ad_len, List.length_replicate, de_len, List.length_take]
  omega
theorem dRow_get (n : Nat) (p : List R) (k j : Nat) : (dRow n p k).getD j 0 = if (j + 1) % 2 = 1 ∧ j + 1 < k then p.getD (j + 1) 0 else 0 := by
  unfold dRow
  rw [ad_get, getD_zeros, zx, de_get, getD_take]
  by_cases h1 : (j + 1) % 2 = 1 <;> by_cases h2 : j + 1 < k <;> simp [h1, h2]
theorem dRow_even {n k : Nat} {p : List R} (hp : p.length = n) (hk : k < n) (h : k % 2 = 0) : dRow n p (k + 1) = dRow n p k := by
  refine eq_getD (by rw [dRow_len hp (by omega), dRow_len hp (by omega)]) fun j _ => ?_
  rw [dRow_get, dRow_get]
  by_cases e : (j + 1) % 2 = 1 ∧ j + 1 < k
  · rw [if_pos e, if_pos ⟨e.1, by omega⟩]
  · rw [if_neg e, if_neg (fun e' => e ⟨e'.1, by omega⟩)]
theorem dRow_odd {n K : Nat} {p : List R} (hp : p.length = n) (hk : K + 1 < n) (h : (K + 1) % 2 = 1) : (dRow n p (K + 1)).set K (p.getD (K + 1) 0) = dRow n p (K + 1 + 1) := by
  refine eq_getD (by rw [List.length_set, dRow_len hp (by omega), dRow_len hp (by omega)]) fun j _ => ?_
  rw [getD_set _ _ _ _ (by rw [dRow_len hp (by omega)]; omega), dRow_get, dRow_get]
  by_cases e : j = K
  · subst e
    rw [if_pos rfl, if_pos ⟨h, by omega⟩]
  · rw [if_neg e]
    by_cases e2 : (j + 1) % 2 = 1 ∧ j + 1 < K + 1
    · rw [if_pos e2, if_pos ⟨e2.1, by omega⟩]
    · rw [if_neg e2, if_neg (fun e' => e2 ⟨e'.1, by omega⟩)]
theorem dRow_end {n : Nat} {p : List R} (hp : p.length = n) (hn : n ≤ 250) : trim (dRow n p n) = derL p := by
  have h1 := trim_len (dRow n p n)
  rw [dRow_len hp (Nat.le_refl _)] at h1
  refine eq_ev (trim_trim _) (derL_tr p) (by omega) (by have := derL_len p; omega) fun x => ?_
  unfold dRow derL
  rw [List.take_of_length_le (by omega), ev_trim, ev_trim, ev_ad, show ev (List.replicate n 0#8) x = 0 from ev_zeros n x, zx]
theorem dRow_zero (n : Nat) (p : List R) : dRow n p 0 = List.replicate n 0#8 := by
  unfold dRow
  rw [List.take_zero, show de [] = [] from List.eq_nil_of_length_eq_zero (by rw [de_len]; rfl), ad_nil]

set_option maxRecDepth 100000 in
set_option maxHeartbeats 2000000 in
theorem der_own {A : Option Addr} {c : Nat} {p : List R} {w : World} (h : IsSl w A c p) (hp : p.length ≤ 200) :
    Calls Try.prog 47 #[.slice A p.length c] w (Gives w (derL p)) := by
  have hph := Lib.hid h
  clear h
  obtain ⟨n, hn⟩ : ∃ n, p.length = n := ⟨_, rfl⟩
  rw [hn] at hp ⊢
  have hnh := Lib.hid hn
  have hmk := make_zeros w n (by omega)
  have hat := zeros_at w n (by omega)
  have hb1 := mb w (.cells (madeCells #[.int .u8 0] n) 5)
  clear hn
  go_enter Try.func47, Try.ntmps47
  go_wp2
  clear hmk
  obtain ⟨G, hG⟩ : ∃ G, w.heap.size = G := ⟨_, rfl⟩
  have hgl : G < (w.alloc (.cells (madeCells #[.int .u8 0] n) 5)).heap.size := by rw [← hG]; simp
  rw [hG] at hat ⊢
  have hGh := Lib.hid hG
  clear hG
  go_loopw [10] (fun a wr => ∃ k : Nat, k ≤ n ∧ a = .int .i64 k ∧ Hid (VAt wr G (rs (dRow n p k))) ∧ Hid (G < wr.heap.size) ∧ Below w.heap.size w wr) (fun a _ => n - (intOf a).toNat)
  case atStart => exact ⟨0, Nat.zero_le _, rfl, Lib.hid (by rw [dRow_zero]; exact hat), Lib.hid hgl, hb1⟩
  case round =>
    clear hat hgl hb1
    obtain ⟨k, hk, rfl, hat, hgl, hb⟩ := hrel
    by_cases hlt : k < n
    · have i1 : (k : Int) < (n : Int) := by omega
      rcases Nat.mod_two_eq_zero_or_one k with hm | hm
      · have t1 : (k : Int) % 2 = 0 := by omega
        have hat2 := Lib.hid (show VAt wr G (rs (dRow n p (k + 1))) by rw [dRow_even hnh.out hlt hm]; exact hat.out)
        clear hat hm
        go_wp2
        go_roundw
        case rel => exact ⟨k + 1, by omega, by go_num, hat2, hgl, hb⟩
        case measure => simp [intOf]; omega
      · obtain ⟨K, hK⟩ : ∃ K, k = K + 1 := ⟨k - 1, by omega⟩
        have t1 : (k : Int) % 2 = 1 := by omega
        have hst := dRow_odd (p := p) (K := K) hnh.out (by omega) (by omega)
        rw [← hK] at hst
        obtain ⟨b2, o2, rfl, hbl2, hc2⟩ := (hph.out.below hb).read k (by rw [hnh.out]; exact hlt)
        have hKl : K < (dRow n p k).length := by rw [dRow_len hnh.out (by omega)]; omega
        obtain ⟨hn1, hf1⟩ := VAt.readR hat.out hKl
        obtain ⟨Y, hY⟩ : ∃ Y, p.getD k 0 = Y := ⟨_, rfl⟩
        obtain ⟨X, hX⟩ : ∃ X, (dRow n p k).getD K 0 = X := ⟨_, rfl⟩
        rw [hY] at hc2 hst
        rw [hX] at hn1
        have hat2 := Lib.hid (show VAt (wr.setCell ⟨G, K, none⟩ (bv Y)) G (rs (dRow n p (k + 1))) by
          have := VAt.setR hat.out hKl Y
          rw [hst] at this
          exact this)
        have hgl2 := Lib.hid (show G < (wr.setCell ⟨G, K, none⟩ (bv Y)).heap.size by simpa using hgl.out)
        have hb2 := hb.setCell (p := ⟨G, K, none⟩) (by rw [hGh.out]; exact Nat.le_refl _) (bv Y)
        have e1 : (k : Int) - 1 = (K : Int) := by omega
        have i2 : (K : Int) < (n : Int) := by omega
        have i0 : (0 : Int) ≤ (K : Int) := by omega
        clear hat hgl hm hK hst hKl hX hY
        go_wp2
        go_roundw
        case rel => exact ⟨k + 1, by omega, by go_num, hat2, hgl2, hb2⟩
        case measure => simp [intOf]; omega
    · have i1 : ¬ (k : Int) < (n : Int) := by omega
      have hkn : k = n := by omega
      have hat2 := hat.out
      rw [hkn] at hat2
      have hal := dRow_len (p := p) hnh.out (Nat.le_refl n)
      have hsl := IsSl.of_at hat2 hal (by omega) hgl.out
      have cc := size_own hsl (by omega)
      have hmd := dRow_end (p := p) hnh.out (by omega)
      have htl := trim_len (dRow n p n)
      rw [hal, hmd] at cc
      rw [hmd, hal] at htl
      have hfr := trim_take (dRow n p n)
      rw [hmd] at hfr
      have hsl := Lib.hid hsl
      obtain ⟨m, hm⟩ : ∃ m, (derL p).length = m := ⟨_, rfl⟩
      rw [hm] at cc htl hfr
      have hmn : (m : Int) ≤ (n : Int) := by omega
      have hmh := Lib.hid hm
      have hfr := Lib.hid hfr
      have cc := Lib.hid cc
      clear hm hat2 hat hgl hal hmd htl hkn
      go_wp2_with fail
      refine cc.out.mono ?_
      rintro e w2 ⟨rfl, rfl⟩
      go_wp2
      go_ret
      exact ⟨_, n, by rw [hmh.out]; rfl, hsl.out.front m hfr.out, hb⟩
end Go.Proofs.Ytkobcffkgaodbaa.G6
