/- The walk of the law ReedsolomonDetects. -/
import Derived.Test.YtgjinnllofpoaaaG7Law1
import Derived.Deep.RegionHeld3
import Derived.BigRegion
import Derived.StillTailTactics
namespace Go.Proofs.Ytgjinnllofpoaaa.G7
open Go.Proofs.Ytgjinnllofpoaaa.G5
open Go.Proofs.Ytgjinnllofpoaaa.G6 (ev rs rs_len rs_get IsSl conv_sl mb VAt.setR VAt.readR getD_set)
open Go.RowKit Mem
set_option linter.unusedVariables false
set_option linter.unusedSimpArgs false

theorem xr_set : ∀ (u v : List R) (i : Nat) (c : R), u.length = v.length → i < v.length → xr u (v.set i c) = (xr u v).set i (u.getD i 0 ^^^ c)
  | [], v, i, c, h, hi => by simp at h; omega
  | a :: u, [], i, c, h, hi => by simp at h
  | a :: u, b :: v, 0, c, _, _ => rfl
  | a :: u, b :: v, i + 1, c, h, hi => by
    show (a ^^^ b) :: xr u (v.set i c) = (a ^^^ b) :: (xr u v).set i (u.getD i 0 ^^^ c)
    rw [xr_set u v i c (by simpa using h) (by simpa using hi)]
/-- Behind k changes of the word X. -/
structure Chg (X r : List R) (k : Nat) : Prop where
  len : r.length = X.length
  few : wt (xr X r) ≤ k
theorem Chg.start (X : List R) : Chg X X 0 := ⟨rfl, by rw [xr_self, wt_zeros]; exact Nat.le_refl _⟩
theorem Chg.step {X r : List R} {k i : Nat} (h : Chg X r k) (hi : i < r.length) (c : R) : Chg X (r.set i c) (k + 1) := by
  refine ⟨by rw [List.length_set, h.len], ?_⟩
  rw [xr_set _ _ _ _ h.len.symm hi]
  have := wt_set (X.getD i 0 ^^^ c) (xr X r) i
  have := h.few
  omega
theorem Chg.word {p k : Nat} {X r : List R} (h : Chg X r k) (hk : k ≤ p) (hX : Cw p X) (hl : X.length ≤ 255) : cwB p r = (r == X) := by
  rw [Bool.eq_iff_iff, cwB_iff, beq_iff_eq]
  constructor
  · intro hr
    exact (hX.same hr h.len.symm hl (Nat.le_trans h.few hk)).symm
  · intro e
    rw [e]
    exact hX

set_option maxRecDepth 100000 in
set_option maxHeartbeats 4000000 in
theorem walk_detects (a : ByteArray) (i2 : Int) (b : ByteArray) (w : World) (ha : a.size ≤ 140737488351232) (h2 : (Lit.int .u8 i2).wf = true) (hb : b.size ≤ 140737488351232) :
    Calls Try.prog 7 #[.string a, .int .u8 i2, .string b] w fun e w' => e = .returned (.bool true) ∧ Below w.heap.size w w' := by
  obtain ⟨q, hq, rfl⟩ := u8_nat h2
  clear h2
  obtain ⟨p, hp⟩ : ∃ p, q % 64 + 1 = p := ⟨_, rfl⟩
  obtain ⟨n, hn⟩ : ∃ n, min (min a.size a.size) (255 - p) = n := ⟨_, rfl⟩
  have cW := Lib.hid (words_any a a q p n w hq hp hn ha ha)
  have la := take_len a n (by omega)
  have hnp : n + p ≤ 255 := by omega
  have hp1 : 1 ≤ p := by omega
  have hp64 : p ≤ 64 := by omega
  clear hn hp
  go_enter Try.func7, Try.ntmps7
  go_wp2_with fail
  refine cW.out.mono ?_
  rintro e w1 ⟨t, u, ht, hu, rfl, hb1⟩
  obtain ⟨X, hX⟩ : ∃ X, str ((el a).take n ++ t) = X := ⟨_, rfl⟩
  obtain ⟨Y, hY⟩ : ∃ Y, str ((el a).take n ++ u) = Y := ⟨_, rfl⟩
  have eX : (el a).take n ++ t = el X := by rw [← hX, el_str]
  have hcw := ht.2
  rw [eX] at hcw
  have hXs : X.size = n + p := by rw [← el_len, ← eX, List.length_append, la, ht.1]
  rw [hX, hY]
  obtain ⟨cap, W, hcap, hcap2, hcv, hat, hgl, hbW⟩ := bytes_row w1 X (by omega)
  have hcw := Lib.hid hcw
  obtain ⟨N, hN⟩ : ∃ N, X.size = N := ⟨_, rfl⟩
  have hNh := Lib.hid hN
  have hN1 : 1 ≤ N := by omega
  have hpN := Lib.hid (show p ≤ X.size by omega)
  have hN2 : N ≤ 255 := by omega
  obtain ⟨G, hG⟩ : ∃ G, w1.heap.size = G := ⟨_, rfl⟩
  have hGh := Lib.hid hG
  rw [hG] at hat hgl hcv
  rw [hN] at hcv
  have hat := Lib.hid hat
  have hgl := Lib.hid hgl
  have hlX := Lib.hid (show (el X).length = N by rw [el_len, hN])
  have hcap := Lib.hid (show N ≤ cap by rw [← hN]; exact hcap)
  clear ht hu hX hY eX la hXs cW hG hN
  go_wp2
  clear hcv
  go_loopw [12] (fun v wr => ∃ (M k : Nat) (r : List R), M ≤ 128 ∧ v = .int .i64 (M : Int) ∧ Hid (M = 2 * k ∧ Chg (el X) r k ∧ k ≤ p) ∧ Hid (VAt wr G (rs r)) ∧ Hid (G < wr.heap.size) ∧ Below w1.heap.size w1 wr) (fun v _ => 200 - (intOf v).toNat)
  case atStart => exact ⟨0, 0, _, Nat.zero_le _, rfl, Lib.hid ⟨rfl, Chg.start _, Nat.zero_le _⟩, hat, hgl, hbW⟩
  case round =>
    clear hat hgl hbW
    obtain ⟨M, k, r, hM, rfl, hch, hat, hgl, hbq⟩ := hrel
    obtain ⟨M1, hM1⟩ : ∃ M1, M1 = M + 1 := ⟨_, rfl⟩
    obtain ⟨p2, hp2⟩ : ∃ p2, p2 = 2 * p := ⟨_, rfl⟩
    have e1 : (M : Int) + 1 = (M1 : Int) := by omega
    have e2 : 2 * (p : Int) = (p2 : Int) := by omega
    have hp2b : p2 ≤ 128 := by omega
    have hM1b : M1 ≤ 129 := by omega
    have hlr : r.length = N := by rw [hch.out.2.1.len, hlX.out]
    by_cases hc : M1 < b.size ∧ M1 < p2
    · obtain ⟨c1, c2⟩ := hc
      have d1 : decide (M1 < b.size) = true := decide_eq_true c1
      have d2 : decide (M1 < p2) = true := decide_eq_true c2
      have d1' : decide ((M1 : Int) < (b.size : Int)) = true := decide_eq_true (by omega)
      have d2' : decide ((M1 : Int) < (p2 : Int)) = true := decide_eq_true (by omega)
      have hMb : M < b.size := by omega
      obtain ⟨X0, hX0⟩ : ∃ X0, (el b).getD M 0 = X0 := ⟨_, rfl⟩
      obtain ⟨X1, hX1⟩ : ∃ X1, (el b).getD M1 0 = X1 := ⟨_, rfl⟩
      have hv0 := byte_val b M hMb X0 hX0
      have hv1 := byte_val b M1 c1 X1 hX1
      have hX0l := X0.isLt
      obtain ⟨j, hj⟩ : ∃ j, X0.toNat % N = j := ⟨_, rfl⟩
      have hjN : j < N := by rw [← hj]; exact Nat.mod_lt _ (by omega)
      have e3 : (X0.toNat : Int) % (N : Int) = (j : Int) := by omega
      have e4 : Int.tmod (X0.toNat : Int) (N : Int) = (j : Int) := by rw [Int.tmod_eq_emod_of_nonneg (by omega)]; exact e3
      obtain ⟨hn1, hf1⟩ := VAt.readR hat.out (k := j) (by rw [hlr]; exact hjN)
      obtain ⟨V, hV⟩ : ∃ V, r.getD j 0 = V := ⟨_, rfl⟩
      rw [hV] at hn1
      have hx := bxr V X1
      obtain ⟨S, hS⟩ : ∃ S, V ^^^ X1 = S := ⟨_, rfl⟩
      rw [hS] at hx
      have hch2 := Lib.hid (show M + 2 = 2 * (k + 1) ∧ Chg (el X) (r.set j S) (k + 1) ∧ k + 1 ≤ p from ⟨by have := hch.out.1; omega, hch.out.2.1.step (by rw [hlr]; exact hjN) S, by have := hch.out.1; omega⟩)
      have hat2 := Lib.hid (show VAt (wr.setCell ⟨G, j, none⟩ (bv S)).drew G (rs (r.set j S)) from (VAt.setR hat.out (k := j) (by rw [hlr]; exact hjN) S).drew)
      have hgl2 := Lib.hid (show G < (wr.setCell ⟨G, j, none⟩ (bv S)).drew.heap.size by simpa using hgl.out)
      have hb2 := chainN (hbq.setCell (p := ⟨G, j, none⟩) (by rw [hGh.out]; exact Nat.le_refl _) (bv S)) 1
      have m0 : (0 : Int) ≤ (M : Int) := by omega
      have m1 : (M : Int) < (b.size : Int) := by omega
      have m2 : (0 : Int) ≤ (M1 : Int) := by omega
      have m3 : (M1 : Int) < (b.size : Int) := by omega
      have j0 : (0 : Int) ≤ (j : Int) := by omega
      have j1 : (j : Int) < (N : Int) := by omega
      have nz : ((N : Int) == 0) = false := by rw [beq_eq_false_iff_ne]; omega
      have w1' : IntKind.i64.wrap (M1 : Int) = (M1 : Int) := by rw [IntKind.wrap_i64]; omega
      have w2' : IntKind.i64.wrap (j : Int) = (j : Int) := by rw [IntKind.wrap_i64]; omega
      have nz2 : ¬ (N : Int) = 0 := by omega
      have nz3 : ¬ N = 0 := by omega
      have w3' : IntKind.i64.wrap (X0.toNat : Int) = (X0.toNat : Int) := by rw [IntKind.wrap_i64]; omega
      have hM124 := Lib.hid (show M + 2 ≤ 128 by have := hch.out.1; omega)
      clear hat hgl hch hX0 hX1 hj hV hS hM1 hp2 hlr
      go_wp2_with fail
      refine wp_region_still_tail 24 (by kernel_rfl) (by kernel_rfl) ?_
      simp only [List.take_succ_cons, List.take_zero, List.drop_succ_cons, List.drop_zero]
      repeat still_step
      refine wpStill_nil ?_
      change wpList _ _ _ _ _ wr.drew
      go_wp2
      go_roundw
      case rel => exact ⟨M + 2, k + 1, _, by have := hM124.out; omega, by go_num, hch2, hat2, hgl2, hb2⟩
      case measure => simp [intOf]; omega
    · have hsl := sl_at hat.out (by rw [hlr]; exact hcap.out) hcap2 hgl.out
      have k1 := fun (W : World) (h : Below wr.heap.size wr W) => conv_sl (P := Try.prog) (dst := 9) Try.underlying22 Try.underlying5 Try.underlying9 (hsl.below h) hlr
      have hword := hch.out.2.1.word hch.out.2.2 hcw.out (by rw [hlX.out]; omega)
      obtain ⟨Z, hZ⟩ : ∃ Z, str r = Z := ⟨_, rfl⟩
      have eZ : el Z = r := by rw [← hZ, el_str]
      have hZs : Z.size = N := by rw [← el_len, eZ, hlr]
      have hZX : (Z.toList == X.toList) = cwB p (el Z) := by
        rw [eZ, hword, ← str_same, hZ, str_el]
      have cI := fun W => isc_own Z p W hp1 hp64 (by rw [hZs, ← hNh.out]; have := hpN.out; omega) (by omega)
      obtain ⟨B, hB⟩ : ∃ B, cwB p (el Z) = B := ⟨_, rfl⟩
      rw [hB] at cI hZX
      rw [show (⟨(G6.u8s r).toArray⟩ : ByteArray) = Z from hZ] at k1
      have cI := Lib.hid cI
      have cA := Lib.hid (fun W => awake_any W)
      have keep0 := Below.refl wr.heap.size wr
      have keep1 : ∀ W, Below wr.heap.size wr W → Below wr.heap.size wr (World.drew W) := fun W h => chainN h 1
      have d2' : decide (M1 < b.size) = false ∨ (decide (M1 < b.size) = true ∧ decide (M1 < p2) = false) := by
        by_cases h : M1 < b.size
        · exact .inr ⟨decide_eq_true h, decide_eq_false fun h2 => hc ⟨h, h2⟩⟩
        · exact .inl (decide_eq_false h)
      have tr := hbq
      clear hword hlr hch hat hgl hZ eZ hZs hB hsl hc hM1 hp2
      rcases d2' with d1 | ⟨d1, d2⟩
      all_goals
        go_wp2_with fail
        go_region_held3 (fun W => Below wr.heap.size wr W) (first | exact keep0 | exact keep1 _ keep0 | exact chain ‹_› ‹_› | assumption) (first | (go_at_call 19; (with_reducible refine (cI.out _).mono ?_); rintro e2 w9 ⟨rfl, hb2⟩) | (go_at_call 17; (with_reducible refine (cA.out _).mono ?_); rintro e3 w10 ⟨rfl, hb3⟩))
        go_wp2
        go_ret
        exact ⟨rfl, chain hb1 (chain tr (by assumption))⟩
end Go.Proofs.Ytgjinnllofpoaaa.G7
