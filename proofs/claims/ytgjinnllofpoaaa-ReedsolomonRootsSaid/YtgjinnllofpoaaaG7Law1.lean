/- The walks of the laws ReedsolomonDistance, ReedsolomonRoots. -/
import Derived.Test.YtgjinnllofpoaaaG7Dev
import Derived.Test.YtgjinnllofpoaaaG7Ref4
import Derived.Test.YtgjinnllofpoaaaG7Ref5
namespace Go.Proofs.Ytgjinnllofpoaaa.G7
open Go.Proofs.Ytgjinnllofpoaaa.G5
open Go.Proofs.Ytgjinnllofpoaaa.G6 (ev rs rs_len rs_get IsSl conv_sl mb eval_own z_el)
open Go.RowKit Mem
set_option linter.unusedVariables false
set_option linter.unusedSimpArgs false

theorem u8_nat {a : Int} (h : (Lit.int .u8 a).wf = true) : ∃ q : Nat, q ≤ 255 ∧ a = (q : Int) := by
  obtain ⟨h1, h2⟩ : 0 ≤ a ∧ a ≤ 255 := (Lit.wf_int_iff .u8 _).1 h
  exact ⟨a.toNat, by omega, by omega⟩
theorem take_len (s : ByteArray) (n : Nat) (h : n ≤ s.size) : ((el s).take n).length = n := by rw [List.length_take, el_len, Nat.min_eq_left h]

set_option maxHeartbeats 1000000 in
theorem walk_distance (a b : ByteArray) (i2 : Int) (w : World) (ha : a.size ≤ 140737488351232) (hb : b.size ≤ 140737488351232) (h2 : (Lit.int .u8 i2).wf = true) :
    Calls Try.prog 6 #[.string a, .string b, .int .u8 i2] w fun e w' => e = .returned (.bool true) ∧ Below w.heap.size w w' := by
  obtain ⟨q, hq, rfl⟩ := u8_nat h2
  clear h2
  obtain ⟨p, hp⟩ : ∃ p, q % 64 + 1 = p := ⟨_, rfl⟩
  obtain ⟨n, hn⟩ : ∃ n, min (min a.size b.size) (255 - p) = n := ⟨_, rfl⟩
  have cW := Lib.hid (words_any a b q p n w hq hp hn ha hb)
  have la := take_len a n (by omega)
  have lb := take_len b n (by omega)
  have hnp : n + p ≤ 255 := by omega
  have hnh := Lib.hid hn
  have hph := Lib.hid hp
  clear hn hp
  go_enter Try.func6, Try.ntmps6
  go_wp2_with fail
  refine cW.out.mono ?_
  rintro e w1 ⟨t, u, ht, hu, rfl, hb1⟩
  have hl : ((el a).take n ++ t).length = ((el b).take n ++ u).length := by rw [List.length_append, List.length_append, la, lb, ht.1, hu.1]
  have hl2 : ((el a).take n ++ t).length ≤ 255 := by rw [List.length_append, la, ht.1]; exact hnp
  have hsame := ht.2.same hu.2 hl hl2
  obtain ⟨X, hX⟩ : ∃ X, str ((el a).take n ++ t) = X := ⟨_, rfl⟩
  obtain ⟨Y, hY⟩ : ∃ Y, str ((el b).take n ++ u) = Y := ⟨_, rfl⟩
  have eX : (el a).take n ++ t = el X := by rw [← hX, el_str]
  have eY : (el b).take n ++ u = el Y := by rw [← hY, el_str]
  rw [eX, eY] at hsame
  rw [eX] at hl2
  rw [eX, eY] at hl
  rw [hX, hY]
  have hXl : X.size ≤ 255 := by rw [← el_len]; exact hl2
  have hYl : Y.size ≤ 255 := by rw [← el_len, ← hl]; exact hl2
  clear cW ht hu hX hY eX eY la lb hl2 hl
  rcases hXY : (X.toList == Y.toList) with _ | _
  · have hne : ¬ X = Y := fun e => by rw [e] at hXY; simp at hXY
    have hwt : p < wt (xr (el X) (el Y)) := by
      refine Nat.lt_of_not_le fun h => hne ?_
      have := hsame h
      rw [← str_el X, this, str_el]
    have cD := fun W => rdiffer_any X Y W (by omega) (by omega)
    have cA := fun W => awake_any W
    have hwl : wt (xr (el X) (el Y)) ≤ 255 := by
      have := wt_le (xr (el X) (el Y))
      rw [xr_len2, el_len, el_len] at this
      omega
    obtain ⟨N, hN⟩ : ∃ N, wt (xr (el X) (el Y)) = N := ⟨_, rfl⟩
    rw [hN] at cD hwt hwl
    have d1 : decide ((p : Int) < (N : Int)) = true := decide_eq_true (by omega)
    have d2 : decide (p < N) = true := decide_eq_true hwt
    have cD := Lib.hid cD
    have cA := Lib.hid cA
    clear hN hne hsame
    go_wp2_with fail
    refine (cD.out _).mono ?_
    rintro e w2 ⟨rfl, m, rfl⟩
    have hb2 := chainN hb1 m
    go_wp2_with fail
    refine (cA.out _).mono ?_
    rintro e w3 ⟨rfl, hb3⟩
    go_wp2
    go_ret
    exact ⟨rfl, chain hb2 hb3⟩
  · have cA := Lib.hid (awake_any w1)
    clear hsame
    go_wp2_with fail
    refine cA.out.mono ?_
    rintro e w3 ⟨rfl, hb3⟩
    go_wp2
    go_ret
    exact ⟨rfl, chain hb1 hb3⟩

set_option maxHeartbeats 1000000 in
theorem walk_roots (i0 i1 : Int) (w : World) (h0 : (Lit.int .u8 i0).wf = true) (h1 : (Lit.int .u8 i1).wf = true) :
    Calls Try.prog 8 #[.int .u8 i0, .int .u8 i1] w fun e w' => e = .returned (.bool true) ∧ Below w.heap.size w w' := by
  obtain ⟨q, hq, rfl⟩ := u8_nat h0
  obtain ⟨k, hk, rfl⟩ := u8_nat h1
  clear h0 h1
  obtain ⟨p, hp⟩ : ∃ p, q % 64 + 1 = p := ⟨_, rfl⟩
  obtain ⟨n, hn⟩ : ∃ n, k % 255 = n := ⟨_, rfl⟩
  have e1 : (q : Int) % 64 + 1 = (p : Int) := by omega
  have e2 : (k : Int) % 255 = (n : Int) := by omega
  have hp1 : 1 ≤ p := by omega
  have hp64 : p ≤ 64 := by omega
  have hn255 : n < 255 := by omega
  have hroot := gen_roots (p := p) (i := n) (by omega) hn255
  have cG := Lib.hid (gen_own p w hp1 hp64)
  have cA := Lib.hid (fun W => awake_any W)
  clear hp hn
  go_enter Try.func8, Try.ntmps8
  go_wp2_with fail
  refine cG.out.mono ?_
  rintro e w1 ⟨A, c, rfl, hsl, hb1⟩
  obtain ⟨b, o, rfl, hbl, hc⟩ := hsl.read p (by rw [gen_len]; omega)
  rw [gen_last] at hc
  have hc : w1.cell? ⟨b, o + p, none⟩ = some (.int .u8 1) := hc
  have i0 : (0 : Int) ≤ (p : Int) := by omega
  have i1 : (p : Int) < (p : Int) + 1 := by omega
  have cP := rpower_any n w1 (by omega)
  have cE := eval_own (it n 1) hsl (by rw [gen_len]; omega)
  rw [gen_len] at cE
  obtain ⟨x, hx⟩ : ∃ x, it n 1 = x := ⟨_, rfl⟩
  rw [hx] at cP cE hroot
  obtain ⟨V, hV⟩ : ∃ V, ev (gen p) x = V := ⟨_, rfl⟩
  rw [hV] at cE hroot
  have cP := Lib.hid cP
  have cE := Lib.hid cE
  have hroot := Lib.hid hroot
  clear hsl hx hV cG
  go_wp2_with fail
  refine cP.out.mono ?_
  rintro e w2 ⟨rfl, rfl⟩
  go_wp2_with fail
  refine cE.out.mono ?_
  rintro e w2 ⟨rfl, m, rfl⟩
  have hb2 := chainN hb1 m
  have hz := z_el V
  by_cases hlt : n < p
  · have hz2 : ((V.toNat : Int) == 0) = true := by rw [hz, hroot.out.2 hlt]; rfl
    have d1 : decide ((n : Int) < (p : Int)) = true := decide_eq_true (by omega)
    have d2 : decide (n < p) = true := decide_eq_true hlt
    clear hz hroot
    go_wp2_with fail
    refine (cA.out _).mono ?_
    rintro e w3 ⟨rfl, hb3⟩
    go_wp2
    go_ret
    exact ⟨rfl, chain hb2 hb3⟩
  · have hz2 : ((V.toNat : Int) == 0) = false := by
      rw [hz, beq_eq_false_iff_ne]
      exact fun e => hlt (hroot.out.1 e)
    have d1 : decide ((n : Int) < (p : Int)) = false := decide_eq_false (by omega)
    have d2 : decide (n < p) = false := decide_eq_false hlt
    clear hz hroot
    go_wp2_with fail
    refine (cA.out _).mono ?_
    rintro e w3 ⟨rfl, hb3⟩
    go_wp2
    go_ret
    exact ⟨rfl, chain hb2 hb3⟩
end Go.Proofs.Ytgjinnllofpoaaa.G7
