/- The walk of the law ReedsolomonLinear. -/
import Derived.Test.YtgjinnllofpoaaaG7Law2
import Derived.Deep.RegionHeld3
namespace Go.Proofs.Ytgjinnllofpoaaa.G7
open Go.Proofs.Ytgjinnllofpoaaa.G5
open Go.Proofs.Ytgjinnllofpoaaa.G6 (ev rs rs_len rs_get IsSl conv_sl mb)
open Go.RowKit Mem
set_option linter.unusedVariables false
set_option linter.unusedSimpArgs false

theorem xr_tab (p : Nat) (f g : Nat → R) : xr (tab p f) (tab p g) = tab p fun i => f i ^^^ g i :=
  tab_eq (by rw [xr_len2, tab_len, tab_len, Nat.min_self]) fun j hj => by rw [xr_get _ _ _ (by rw [tab_len]; exact hj) (by rw [tab_len]; exact hj), tab_get _ _ _ hj, tab_get _ _ _ hj]
theorem syn_xr {p : Nat} {a b : List R} (h : a.length = b.length) : syn p (xr a b) = xr (syn p a) (syn p b) := by
  unfold syn
  rw [xr_tab]
  exact tab_congr fun i _ => vl_xr _ _ _ h
theorem IsEnc.sum {p : Nat} {a b t u : List R} (ht : IsEnc p a t) (hu : IsEnc p b u) (h : a.length = b.length) : IsEnc p (xr a b) (xr t u) := by
  refine ⟨by rw [xr_len _ _ (ht.1.trans hu.1.symm), ht.1], ?_⟩
  rw [← xr_append _ _ _ _ h]
  exact ht.2.sum hu.2 (by rw [List.length_append, List.length_append, h, ht.1, hu.1])

set_option maxRecDepth 100000 in
set_option maxHeartbeats 4000000 in
theorem walk_linear (a b : ByteArray) (i2 : Int) (w : World) (ha : a.size ≤ 140737488351232) (hb : b.size ≤ 140737488351232) (h2 : (Lit.int .u8 i2).wf = true) :
    Calls Try.prog 5 #[.string a, .string b, .int .u8 i2] w fun e w' => e = .returned (.bool true) ∧ Below w.heap.size w w' := by
  obtain ⟨q, hq, rfl⟩ := u8_nat h2
  clear h2
  obtain ⟨p, hp⟩ : ∃ p, q % 64 + 1 = p := ⟨_, rfl⟩
  obtain ⟨n, hn⟩ : ∃ n, min (min a.size b.size) (255 - p) = n := ⟨_, rfl⟩
  have cW := Lib.hid (words_any a b q p n w hq hp hn ha hb)
  have la := take_len a n (by omega)
  have lb := take_len b n (by omega)
  have hnp : n + p ≤ 255 := by omega
  have hp1 : 1 ≤ p := by omega
  have hp64 : p ≤ 64 := by omega
  have n1 : (n : Int) ≤ (a.size : Int) := by omega
  have n2 : (n : Int) ≤ (b.size : Int) := by omega
  have n1' : n ≤ a.size := by omega
  have n2' : n ≤ b.size := by omega
  have n0 : (0 : Int) ≤ (n : Int) := by omega
  clear hn hp
  go_enter Try.func5, Try.ntmps5
  go_wp2_with fail
  refine cW.out.mono ?_
  rintro e w1 ⟨t, u, ht, hu, rfl, hb1⟩
  have hxa := extract_el a n n1'
  have hxb := extract_el b n n2'
  obtain ⟨A, hA⟩ : ∃ A, (el a).take n = A := ⟨_, rfl⟩
  obtain ⟨B, hB⟩ : ∃ B, (el b).take n = B := ⟨_, rfl⟩
  rw [hA] at la ht hxa
  rw [hB] at lb hu hxb
  rw [hA, hB]
  obtain ⟨X, hX⟩ : ∃ X, str (A ++ t) = X := ⟨_, rfl⟩
  obtain ⟨Y, hY⟩ : ∃ Y, str (B ++ u) = Y := ⟨_, rfl⟩
  obtain ⟨E, hE⟩ : ∃ E, str A = E := ⟨_, rfl⟩
  obtain ⟨F, hF⟩ : ∃ F, str B = F := ⟨_, rfl⟩
  rw [hE] at hxa
  rw [hF] at hxb
  have eX : el X = A ++ t := by rw [← hX, el_str]
  have eY : el Y = B ++ u := by rw [← hY, el_str]
  have eE : el E = A := by rw [← hE, el_str]
  have eF : el F = B := by rw [← hF, el_str]
  have hXs : X.size = n + p := by rw [← el_len, eX, List.length_append, la, ht.1]
  have hYs : Y.size = n + p := by rw [← el_len, eY, List.length_append, lb, hu.1]
  have hEs : E.size = n := by rw [← el_len, eE, la]
  have hFs : F.size = n := by rw [← el_len, eF, lb]
  have hlen : A.length = B.length := by rw [la, lb]
  have hsum := ht.sum hu hlen
  rw [hX, hY]
  -- the word of the sum
  have cX1 := fun W => rxor_any E F W (by omega) (by omega)
  rw [eE, eF] at cX1
  obtain ⟨G, hG⟩ : ∃ G, str (xr A B) = G := ⟨_, rfl⟩
  have eG : el G = xr A B := by rw [← hG, el_str]
  have hGs : G.size = n := by rw [← el_len, eG, xr_len _ _ hlen, la]
  have cX1 : ∀ W, Calls Try.prog 20 #[.string E, .string F] W fun e w' => e = .returned (.string G) ∧ Below W.heap.size W w' := by rw [← hG]; exact cX1
  have cX2 := fun W => rxor_any X Y W (by omega) (by omega)
  rw [eX, eY, xr_append _ _ _ _ hlen] at cX2
  obtain ⟨H, hH⟩ : ∃ H, str (xr A B ++ xr t u) = H := ⟨_, rfl⟩
  have cX2 : ∀ W, Calls Try.prog 20 #[.string X, .string Y] W fun e w' => e = .returned (.string H) ∧ Below W.heap.size W w' := by rw [← hH]; exact cX2
  have cE : ∀ W, Calls Try.prog 13 #[.string G, .int .i64 (p : Int)] W fun e w' => e = .returned (.tuple #[.string H, .int .i64 0]) ∧ Below W.heap.size W w' := fun W => by
    refine (enc_own G p W hp1 hp64 (by omega)).mono ?_
    rintro e w' ⟨t2, h2, rfl, hb⟩
    rw [eG] at h2 ⊢
    rw [h2.only hsum (by rw [xr_len _ _ hlen, la]; exact hnp), hH]
    exact ⟨rfl, hb⟩
  have e1 : (X.size : Int) - (p : Int) = (n : Int) := by omega
  have hx3 : X.size ≤ 255 := by omega
  have hsyn := syn_xr (p := p) hlen
  have hHs : H.size ≤ 255 := by rw [← hH, size_str, List.length_append, hsum.1, xr_len _ _ hlen, la]; omega
  have cX1 := Lib.hid cX1
  have cX2 := Lib.hid cX2
  have cE := Lib.hid cE
  have cA := Lib.hid (fun W => awake_any W)
  have eE := Lib.hid eE
  have eF := Lib.hid eF
  have eG := Lib.hid eG
  have hEs := Lib.hid hEs
  have hFs := Lib.hid hFs
  have hGs := Lib.hid hGs
  have hsyn := Lib.hid hsyn
  clear ht hu hsum hX hY hE hF hG hH la lb eX eY hXs hYs hlen hA hB cW
  go_wp2_with fail
  go_region_held3 (fun _ => True) (trivial) (first | (go_at_call 20; (with_reducible refine (cX1.out _).mono ?_); rintro e2 w2 ⟨rfl, hb2⟩) | (go_at_call 13; (with_reducible refine (cE.out _).mono ?_); rintro e3 w3 ⟨rfl, hb3⟩))
  replace hb1 := chain (chain (chainN hb1 1) hb2) hb3
  clear hb2 hb3
  go_wp2_with fail
  refine (cX2.out _).mono ?_
  rintro e w4 ⟨rfl, hb2⟩
  replace hb1 := chain hb1 hb2
  clear hb2 cX2 cE
  by_cases hsh : n < p
  · have d1 : (n : Int) < (p : Int) := by omega
    have d2 : decide (n < p) = true := decide_eq_true hsh
    go_wp2_with fail
    refine (cA.out _).mono ?_
    rintro e w5 ⟨rfl, hb2⟩
    go_wp2
    go_ret
    exact ⟨rfl, chain hb1 hb2⟩
  · have d1 : ¬ (n : Int) < (p : Int) := by omega
    have d2 : decide (n < p) = false := decide_eq_false hsh
    have cS1 := syn_own E p w4 hp1 hp64 (by rw [hEs.out]; omega) (by rw [hEs.out]; omega)
    rw [eE.out] at cS1
    have cS1 := Lib.hid cS1
    go_wp2_with fail
    refine cS1.out.mono ?_
    rintro e w5 ⟨A1, c1, rfl, hs1, hb2⟩
    replace hb1 := chain hb1 hb2
    have hs1 := Lib.hid hs1
    clear hb2 cS1
    have cS2 := syn_own F p w5 hp1 hp64 (by rw [hFs.out]; omega) (by rw [hFs.out]; omega)
    rw [eF.out] at cS2
    have cS2 := Lib.hid cS2
    go_wp2_with fail
    refine cS2.out.mono ?_
    rintro e w6 ⟨A2, c2, rfl, hs2, hb2⟩
    replace hb1 := chain hb1 hb2
    have hs1 := Lib.hid (hs1.out.below hb2)
    have hs2 := Lib.hid hs2
    clear hb2 cS2
    have cS3 := fun W => syn_own G p W hp1 hp64 (by rw [hGs.out]; omega) (by rw [hGs.out]; omega)
    rw [eG.out] at cS3
    have cS3 := Lib.hid cS3
    go_wp2_with fail
    go_region_held3 (fun _ => True) (trivial) (first | (go_at_call 20; (with_reducible refine (cX1.out _).mono ?_); rintro e2 w7 ⟨rfl, hb2⟩) | (go_at_call 15; (with_reducible refine (cS3.out _).mono ?_); rintro e3 w8 ⟨A3, c3, rfl, hs3, hb3⟩))
    rw [hsyn.out] at hs3
    have hbq := chain (chain (chainN (Below.refl _ w6) 1) hb2) hb3
    have hs1 := Lib.hid (hs1.out.below hbq)
    have hs2 := Lib.hid (hs2.out.below hbq)
    replace hb1 := chain hb1 hbq
    clear hb2 hb3 hbq cX1 cS3 hxa hxb
    have l1 := syn_len p A
    have l2 := syn_len p B
    have l3 : (xr (syn p A) (syn p B)).length = p := by rw [xr_len _ _ (l1.trans l2.symm), l1]
    have k1 := fun (W : World) (h : Below w8.heap.size w8 W) => conv_sl (P := Try.prog) (dst := 9) Try.underlying22 Try.underlying5 Try.underlying9 (hs1.out.below h) l1
    have k2 := fun (W : World) (h : Below w8.heap.size w8 W) => conv_sl (P := Try.prog) (dst := 9) Try.underlying22 Try.underlying5 Try.underlying9 (hs2.out.below h) l2
    have k3 := fun (W : World) (h : Below w8.heap.size w8 W) => conv_sl (P := Try.prog) (dst := 9) Try.underlying22 Try.underlying5 Try.underlying9 (hs3.below h) l3
    have cX3 := fun W => rxor_any (str (syn p A)) (str (syn p B)) W (by rw [size_str, l1]; omega) (by rw [size_str, l2]; omega)
    rw [el_str, el_str] at cX3
    obtain ⟨U, hU⟩ : ∃ U, str (syn p A) = U := ⟨_, rfl⟩
    obtain ⟨V, hV⟩ : ∃ V, str (syn p B) = V := ⟨_, rfl⟩
    obtain ⟨Z, hZ⟩ : ∃ Z, str (xr (syn p A) (syn p B)) = Z := ⟨_, rfl⟩
    rw [show (⟨(G6.u8s (syn p A)).toArray⟩ : ByteArray) = U from hU] at k1
    rw [show (⟨(G6.u8s (syn p B)).toArray⟩ : ByteArray) = V from hV] at k2
    rw [show (⟨(G6.u8s (xr (syn p A) (syn p B))).toArray⟩ : ByteArray) = Z from hZ] at k3
    rw [hU, hV] at cX3
    have cX3 : ∀ W, Calls Try.prog 20 #[.string U, .string V] W fun e w' => e = .returned (.string Z) ∧ Below W.heap.size W w' := by rw [← hZ]; exact cX3
    have cX3 := Lib.hid cX3
    have hsy := Lib.hid hsyn
    clear hs1 hs2 hs3 l1 l2 l3 hU hV hZ hsyn
    have keepN : ∀ W n, Below w8.heap.size w8 W → Below w8.heap.size w8 (World.drewN W n) := fun W n h => chainN h n
    have keep1 : ∀ W, Below w8.heap.size w8 W → Below w8.heap.size w8 (World.drew W) := fun W h => chainN h 1
    have keep0 := Below.refl w8.heap.size w8
    go_wp2_with fail
    go_region_held3 (fun W => Below w8.heap.size w8 W) (first | exact keep0 | exact keep1 _ keep0 | exact chain ‹_› ‹_› | assumption) (first | (go_at_call 20; (with_reducible refine (cX3.out _).mono ?_); rintro e2 w9 ⟨rfl, hb2⟩) | (go_at_call 17; (with_reducible refine (cA.out _).mono ?_); rintro e3 w10 ⟨rfl, hb3⟩))
    go_wp2
    go_ret
    exact ⟨rfl, chain hb1 (chain (chain (chainN (Below.refl _ _) 1) hb2) hb3)⟩
end Go.Proofs.Ytgjinnllofpoaaa.G7
