/- Facts and contracts that the walks of this layer use, merged: G7Own5, G7Ref1, G7Ref5, G7Ref3, G7Pad, G7Ref4. -/
import Derived.Test.YtiodkllckcpinaaGreatDoorM14AJ
import Derived.Test.YtiodkllckcpinaaGreatDoorM14AI
import Derived.Deep.QuietTactic
import Derived.BigQuiet
import Derived.Deep.RegionWith
import Derived.Deep.RegionHeld3
import Derived.StillTailTactics
import Derived.Test.YtiodkllckcpinaaGreatDoorM14AA
set_option linter.unusedVariables false
set_option linter.unusedSimpArgs false
set_option maxRecDepth 100000
namespace Go.Proofs.YtiodkllckcpinaaGreatDoor
namespace G7
open G5
open G6 (ev rs rs_len rs_get IsSl conv_sl mb VAt.setR VAt.readR getD_set make_zeros zeros_at eval_own)
open Go.RowKit Mem

theorem syn_out (s : ByteArray) (p : Int) (w : World) (h : p < 1 ∨ 64 < p) : Calls Tryz.prog 130 #[.string s, .int .i64 p] w (NoSl 2 w) := by
 have cP := Lib.hid (par_no p w h)
 clear h
 go_enter Tryz.func130, Tryz.ntmps130
 go_wp2_with fail
 refine cP.out.mono ?_
 rintro e w1 ⟨rfl, rfl⟩
 go_wp2
 go_ret2
 exact ⟨rfl, rfl⟩
theorem syn_short (s : ByteArray) (p : Nat) (w : World) (h1 : 1 ≤ p) (h2 : p ≤ 64) (h : s.size < p) : Calls Tryz.prog 130 #[.string s, .int .i64 (p : Int)] w (NoSl 4 w) := by
 have cP := Lib.hid (par_yes (p : Int) w (by omega) (by omega))
 have t5 : decide (s.size < p) = true := decide_eq_true h
 go_enter Tryz.func130, Tryz.ntmps130
 go_wp2_with fail
 refine cP.out.mono ?_
 rintro e w1 ⟨rfl, rfl⟩
 go_wp2
 go_ret2
 exact ⟨rfl, rfl⟩
theorem bytes_row (w : World) (s : ByteArray) (hs : s.size ≤ 1000000) : ∃ (cap : Nat) (W : World), s.size ≤ cap ∧ cap ≤ 9223372036854775807 ∧ (convert 9 53 (.string s)).run Tryz.prog w = .ok (.slice (some ⟨w.heap.size, 0, none⟩) s.size cap) W ∧
  VAt W w.heap.size (rs (el s)) ∧ w.heap.size < W.heap.size ∧ Below w.heap.size w W := by
 have hcap := grownCap_ge w s.size 0 5
 have hle := grownCap_le_maxLen w s.size 0 5 (by unfold maxLen; omega)
 have hrun := run_bytes_of_string (P := Tryz.prog) w 9 53 5 s Tryz.underlying9 Tryz.underlying53 Tryz.underlying5
 obtain ⟨cap, hc⟩ : ∃ cap, grownCap w s.size 0 5 = cap := ⟨_, rfl⟩
 rw [hc] at hcap hle hrun
 have hCs : (bytesRow s cap).size = cap := by simp [bytesRow]; omega
 rw [hCs] at hrun
 refine ⟨cap, _, hcap, by unfold maxLen at hle; omega, hrun, fun j hj => ?_, by simp, (Below.refl _ w).drew.alloc (by simp) _⟩
 have hj' : j < s.data.size := by rw [rs_len, el_len] at hj; exact hj
 refine ⟨(World.cell?_alloc_mark w.drew _ _ _ j).trans ((bytesRow_at s cap j hj').trans ?_), (World.frozen?_alloc_mark w.drew _ _ _ _ j).trans ?_⟩
 ·congr 1
  simp [rs, el]
 ·have : j < s.size := hj'
  simp
  omega
theorem sl_at {w : World} {g c : Nat} {l : List R} (h : VAt w g (rs l)) (hc : l.length ≤ c) (hc2 : c ≤ 9223372036854775807) (hg : g < w.heap.size) : IsSl w (some ⟨g, 0, none⟩) c l :=
 ⟨hc, hc2, (fun h => by cases h), fun j hj => ⟨g, 0, rfl, hg, by rw [Nat.zero_add]; exact (h j hj).1⟩⟩
def sk (p : Nat) (d : List R) (k : Nat) : List R := tab p fun m => if m < k then vl d (it m 1) else 0
theorem sk_len (p : Nat) (d : List R) (k : Nat) : (sk p d k).length = p := tab_len _ _
theorem sk_zero (p : Nat) (d : List R) : sk p d 0 = List.replicate p 0 := (tab_eq (by simp) fun j hj => by rw [if_neg (by omega)]; exact gz _ _).symm
theorem sk_step {p : Nat} {d : List R} {k : Nat} (h : k < p) : (sk p d k).set k (vl d (it k 1)) = sk p d (k + 1) := by
 unfold sk
 rw [tab_set _ _ _ _ h]
 refine tab_congr fun m hm => ?_
 by_cases e : m = k
 ·subst e
  rw [if_pos rfl, if_pos (by omega)]
 ·rw [if_neg e]
  by_cases e2 : m < k
  ·rw [if_pos e2, if_pos (by omega)]
  ·rw [if_neg e2, if_neg (by omega)]
theorem sk_done (p : Nat) (d : List R) : sk p d p = syn p d := tab_congr fun m hm => if_pos hm

set_option maxHeartbeats 2000000 in
theorem syn_own (s : ByteArray) (p : Nat) (w : World) (h1 : 1 ≤ p) (h2 : p ≤ 64) (h3 : p ≤ s.size) (h4 : s.size ≤ 255) : Calls Tryz.prog 130 #[.string s, .int .i64 (p : Int)] w (Synd p (el s) w) := by
 have cP := Lib.hid (par_yes (p : Int) w (by omega) (by omega))
 have t5 : decide (s.size < p) = false := decide_eq_false (by omega)
 have t6 : decide ((255 : Int) < (s.size : Int)) = false := decide_eq_false (by omega)
 have t7 : decide (255 < s.size) = false := decide_eq_false (by omega)
 obtain ⟨cap, W, hcap, hcap2, hcv, hatW, hlW, hbW⟩ := bytes_row w s (by omega)
 have cR := Lib.hid (rev_own (c := cap) hatW (by rw [el_len] : (el s).length = s.size) (by omega) (by omega) hlW (Nat.le_refl _))
 clear hatW hlW
 go_enter Tryz.func130, Tryz.ntmps130
 go_wp2_with fail
 refine cP.out.mono ?_
 rintro e w1 ⟨rfl, rfl⟩
 clear cP
 go_wp2_with fail
 refine cR.out.mono ?_
 rintro e w2 ⟨rfl, hat2, hl2, hb2⟩
 have hbw2 := hbW.trans hb2
 have hP2 := Lib.hid (sl_at (c := cap) hat2 (by rw [List.length_reverse, el_len]; exact hcap) hcap2 hl2)
 clear cR hbW hb2 hat2 hl2 hcv
 have hmk := make_zeros w2 p (by omega)
 have hatS := zeros_at w2 p (by omega)
 have ob := mb w2 (.cells (madeCells #[.int .u8 0] p) 5)
 go_wp2
 clear hmk
 obtain ⟨S, hS⟩ : ∃ S, w2.heap.size = S := ⟨_, rfl⟩
 have hglS := Lib.hid (show S < (w2.alloc (.cells (madeCells #[.int .u8 0] p) 5)).heap.size by rw [← hS]; simp)
 rw [hS] at hatS ⊢
 have hSh := Lib.hid hS
 have hatS := Lib.hid (show VAt (w2.alloc (.cells (madeCells #[.int .u8 0] p) 5)) S (rs (sk p (el s) 0)) by rw [sk_zero]; exact hatS)
 clear hS
 go_loopw [29] (fun a wr => ∃ k : Nat, k ≤ p ∧ a = .int .i64 k ∧ Hid (VAt wr S (rs (sk p (el s) k))) ∧ Hid (S < wr.heap.size) ∧ Below w2.heap.size w2 wr) (fun a _ => p - (intOf a).toNat)
 case atStart => exact ⟨0, Nat.zero_le _, rfl, hatS, hglS, ob⟩
 case round =>
  clear hatS hglS ob
  obtain ⟨k, hk, rfl, hat, hgl, hb⟩ := hrel
  by_cases hlt : k < p
  ·have hst := sk_step (d := el s) hlt
   have cE := exp_own (k : Int) wr (by omega) (by omega)
   rw [ex_nat] at cE
   have hvl := vl_ev (el s) (it k 1)
   obtain ⟨X, hX⟩ : ∃ X, it k 1 = X := ⟨_, rfl⟩
   rw [hX] at cE hst hvl
   have cE := Lib.hid cE
   have hst := Lib.hid hst
   have hvl := Lib.hid hvl
   have d0 : (k : Int) < (p : Int) := by omega
   have d1 : decide (k < p) = true := decide_eq_true hlt
   have k0 : (0 : Int) ≤ (k : Int) := by omega
   clear hX
   go_wp2_with fail
   refine cE.out.mono ?_
   rintro e w3 ⟨rfl, hb3⟩
   clear cE
   have hb4 := chain hb hb3
   have hat3 := hat.out.below hb3 hgl.out
   have hgl3 := Nat.lt_of_lt_of_le hgl.out hb3.size
   clear hat hgl hb hb3
   have cV := eval_own X (hP2.out.below hb4) (by rw [List.length_reverse, el_len]; omega)
   rw [List.length_reverse, el_len, ← hvl.out] at cV
   obtain ⟨V, hV⟩ : ∃ V, vl (el s) X = V := ⟨_, rfl⟩
   rw [hV] at cV
   have hVh := Lib.hid hV
   have cV := Lib.hid cV
   clear hV
   go_wp2_with fail
   with_reducible refine cV.out.mono ?_
   rintro e w4 ⟨rfl, m, rfl⟩
   have hb5 := chainN hb4 m
   have hat5 := VAt.drewN hat3 m
   obtain ⟨W5, hW5⟩ : ∃ W5, w3.drewN m = W5 := ⟨_, rfl⟩
   have hgl5 : S < W5.heap.size := by rw [← hW5]; exact hgl3
   rw [hW5] at hb5 hat5 ⊢
   obtain ⟨hn1, hf1⟩ := VAt.readR hat5 (k := k) (by rw [sk_len]; exact hlt)
   have hat6 := Lib.hid (show VAt (W5.setCell ⟨S, k, none⟩ (bv V)) S (rs (sk p (el s) (k + 1))) by
    have := VAt.setR hat5 (k := k) (by rw [sk_len]; exact hlt) V
    rw [← hVh.out, hst.out, hVh.out] at this
    exact this)
   have hgl6 := Lib.hid (show S < (W5.setCell ⟨S, k, none⟩ (bv V)).heap.size by simpa using hgl5)
   have hb6 := hb5.setCell (p := ⟨S, k, none⟩) (by rw [hSh.out]; exact Nat.le_refl _) (bv V)
   clear hb5 hat5 hgl5 cV hb4 hat3 hgl3 hW5 hst hvl hVh
   go_wp2
   go_roundw
   case rel => exact ⟨k + 1, by omega, by go_num, hat6, hgl6, hb6⟩
   case measure => simp [intOf]; omega
  ·have hke : k = p := by omega
   rw [hke, sk_done] at hat
   have hsl := Lib.hid (IsSl.of_at hat.out (syn_len p (el s)) (by omega) hgl.out)
   have d0 : ¬ (k : Int) < (p : Int) := by omega
   have d1 : decide (k < p) = false := decide_eq_false hlt
   clear hke hat hgl
   go_wp2
   go_ret2
   exact ⟨_, p, rfl, hsl.out, chain hbw2 hb⟩
theorem isc_own (s : ByteArray) (p : Nat) (w : World) (h1 : 1 ≤ p) (h2 : p ≤ 64) (h3 : p ≤ s.size) (h4 : s.size ≤ 255) : Calls Tryz.prog 137 #[.string s, .int .i64 (p : Int)] w fun e w' => e = .returned (.bool (cwB p (el s))) ∧ Below w.heap.size w w' := by
 have cS := Lib.hid (syn_own s p w h1 h2 h3 h4)
 unfold cwB
 obtain ⟨B, hB⟩ : ∃ B, (syn p (el s)).all (· == 0) = B := ⟨_, rfl⟩
 have hBh := Lib.hid hB
 rw [hB]
 clear hB
 go_enter Tryz.func137, Tryz.ntmps137
 go_wp2_with fail
 refine cS.out.mono ?_
 rintro e w1 ⟨A, c, rfl, hsl, hb⟩
 have cH := has_own hsl (syn_len p (el s)) (by omega)
 rw [hBh.out] at cH
 have cH := Lib.hid cH
 clear cS hsl
 go_wp2_with fail
 refine cH.out.mono ?_
 rintro e w2 ⟨rfl, rfl⟩
 go_wp2
 go_ret
 exact ⟨by simp, hb⟩
end G7
namespace G7
open G5
open Go.RowKit Mem

set_option maxHeartbeats 1000000 in
theorem rtimes_any (a b : R) (w : World) : Calls Tryz.prog 93 #[bv a, bv b] w fun e w' => e = .returned (bv (tms a b)) ∧ w = w' := by
 rw [← rm_eq]
 have ha := a.isLt
 have hb := b.isLt
 go_enter Tryz.func93, Tryz.ntmps93
 go_wp2
 go_loop [6, 7] (fun p k => ∃ j : Nat, j ≤ 8 ∧ k = .int .i64 j ∧ p = .int .i64 ((up a b j).toNat : Int)) (fun _ k => 8 - (intOf k).toNat)
 case atStart => exact ⟨0, Nat.zero_le _, rfl, rfl⟩
 case round =>
  obtain ⟨j, hj, rfl, rfl⟩ := hrel
  by_cases hlt : j < 8
  ·have hu := up_term a j hlt
   have hp2 : (2 : Int) ^ j ≤ 128 := by
    have : ∀ j, j < 8 → (2 : Int) ^ j ≤ 128 := by decide
    exact this j hlt
   have hul := (up a b j).isLt
   rcases hbit : b.getLsbD j with _ | _
   ·have hup := Lib.hid (show up a b (j + 1) = up a b j by show (if b.getLsbD j then _ else _) = _; rw [hbit]; rfl)
    have ht : (bits .and .u8 ((b.toNat : Int) / 2 ^ j) 1 == 1) = false := by rw [u8_and1, bit_test, hbit]
    clear hbit hu
    go_wp2
    go_round
    case rel => exact ⟨j + 1, by omega, by go_num, by rw [hup.out]⟩
    case measure => simp [intOf]; omega
   ·have hup := Lib.hid (show up a b (j + 1) = up a b j ^^^ (a.setWidth 16 <<< j) by show (if b.getLsbD j then _ else _) = _; rw [hbit]; rfl)
    have hx := bxr16 (up a b j) (a.setWidth 16 <<< j)
    rw [hu, ← hup.out] at hx
    have hx := Lib.hid hx
    have ht : (bits .and .u8 ((b.toNat : Int) / 2 ^ j) 1 == 1) = true := by rw [u8_and1, bit_test, hbit]
    clear hbit hu
    go_wp2
    go_round
    case rel => exact ⟨j + 1, by omega, by go_num, congrArg (Value.int .i64) (by rw [G5.wrap_small (by have := up_term a j hlt; omega) (by have := up_term a j hlt; have := (a.setWidth 16 <<< j : BitVec 16).isLt; omega)]; exact hx.out)⟩
    case measure => simp [intOf]; omega
  ·obtain rfl : j = 8 := by omega
   go_wp2
   go_loop [6, 8] (fun p k => ∃ d : Nat, 7 ≤ d ∧ d ≤ 14 ∧ k = .int .i64 d ∧ p = .int .i64 ((dn (up a b 8) (14 - d)).toNat : Int)) (fun _ k => (intOf k).toNat)
   case atStart => exact ⟨14, by decide, by decide, rfl, rfl⟩
   case round =>
    obtain ⟨d, hd7, hd14, rfl, rfl⟩ := hrel
    by_cases hlt : 8 ≤ d
    ·obtain ⟨j, hj⟩ : ∃ j, 14 - d = j := ⟨_, rfl⟩
     have hd : d = 14 - j := by omega
     have hj1 : 14 - (d - 1) = j + 1 := by omega
     have hu := dn_term j (by omega)
     have hp2 : (0 : Int) ≤ 285 * 2 ^ (6 - j) ∧ (285 : Int) * 2 ^ (6 - j) < 65536 := by
      have : ∀ j, j < 7 → (0 : Int) ≤ 285 * 2 ^ (6 - j) ∧ (285 : Int) * 2 ^ (6 - j) < 65536 := by decide
      exact this j (by omega)
     have hw := G5.wrap_small hp2.1 hp2.2
     rw [show 6 - j = d - 8 by omega] at hw hu
     have hw := Lib.hid hw
     clear hp2
     rw [hj]
     have hul := (dn (up a b 8) j).isLt
     rcases hbit : (dn (up a b 8) j).getLsbD (14 - j) with _ | _
     ·have hup := Lib.hid (show dn (up a b 8) (j + 1) = dn (up a b 8) j by show (if (dn (up a b 8) j).getLsbD (14 - j) then _ else _) = _; rw [hbit]; rfl)
      have ht : (bits .and .i64 (((dn (up a b 8) j).toNat : Int) / 2 ^ d) 1 == 1) = false := by rw [i64_and1, bit_test, hd, hbit]
      have hjh := Lib.hid hj1
      clear hbit hu hd hj hj1
      go_wp2
      go_round
      case rel => exact ⟨d - 1, by omega, by omega, by go_num, by rw [hjh.out, hup.out]⟩
      case measure => simp [intOf]; omega
     ·have hup := Lib.hid (show dn (up a b 8) (j + 1) = dn (up a b 8) j ^^^ (285#16 <<< (6 - j)) by show (if (dn (up a b 8) j).getLsbD (14 - j) then _ else _) = _; rw [hbit]; rfl)
      have hx := bxr16 (dn (up a b 8) j) (285#16 <<< (6 - j))
      rw [← hup.out, show (6 - j) = d - 8 by omega, hu] at hx
      have hx := Lib.hid hx
      have ht : (bits .and .i64 (((dn (up a b 8) j).toNat : Int) / 2 ^ d) 1 == 1) = true := by rw [i64_and1, bit_test, hd, hbit]
      have hjh := Lib.hid hj1
      clear hbit hu hd hj hj1
      go_wp2
      go_round
      case rel => exact ⟨d - 1, by omega, by omega, by go_num, by rw [hjh.out]⟩
      case measure => simp [intOf]; omega
    ·obtain rfl : d = 7 := by omega
     have hm : ((dn (up a b 8) 7).setWidth 8).toNat = (dn (up a b 8) 7).toNat % 256 := by rw [BitVec.toNat_setWidth]
     have hm := Lib.hid hm
     go_wp2
     go_ret
     exact ⟨ret_i (by show _ = (((dn (up a b 8) 7).setWidth 8).toNat : Int); rw [hm.out]; first | done | omega), rfl⟩

theorem rpower2_any (j : Nat) (w : World) : Calls Tryz.prog 93 #[.int .u8 ((it j 1).toNat : Int), .int .u8 2] w fun e w' => e = .returned (.int .u8 ((it (j + 1) 1).toNat : Int)) ∧ w = w' := by
 have h := rtimes_any (it j 1) 2#8 w
 rw [show tms (it j 1) 2#8 = it (j + 1) 1 by rw [show (2#8 : R) = it 1 1 by decide, it_tms]] at h
 exact h
theorem rpower_any (n : Nat) (w : World) (hn : n ≤ 100000) : Calls Tryz.prog 140 #[.int .i64 (n : Int)] w fun e w' => e = .returned (bv (it n 1)) ∧ w = w' := by
 go_enter Tryz.func140, Tryz.ntmps140
 go_wp2
 go_loop [3, 4] (fun p i => ∃ j : Nat, j ≤ n ∧ i = .int .i64 j ∧ p = .int .u8 ((it j 1).toNat : Int)) (fun _ i => n - (intOf i).toNat)
 case atStart => exact ⟨0, Nat.zero_le _, rfl, rfl⟩
 case round =>
  obtain ⟨j, hj, rfl, rfl⟩ := hrel
  by_cases hlt : j < n
  ·have c := Lib.hid (rpower2_any j w)
   go_wp2_with fail
   refine c.out.mono ?_
   rintro e w1 ⟨rfl, rfl⟩
   go_wp2
   go_round
   case rel => exact ⟨j + 1, by omega, by go_num, rfl⟩
   case measure => simp [intOf]; omega
  ·obtain rfl : j = n := by omega
   go_wp2
   go_ret
   exact ⟨rfl, rfl⟩

set_option maxHeartbeats 1000000 in
theorem rvalue_any (s : ByteArray) (x : R) (w : World) (hs : s.size ≤ 100000) : Calls Tryz.prog 143 #[.string s, bv x] w fun e w' => e = .returned (bv (vl (el s) x)) ∧ ∃ m, w' = w.drewN m := by
 go_enter Tryz.func143, Tryz.ntmps143
 go_wp2
 go_loopw [5, 6] (fun p i wr => ∃ k m : Nat, k ≤ s.size ∧ i = .int .i64 k ∧ p = .int .u8 ((vl ((el s).take k) x).toNat : Int) ∧ Hid (wr = w.drewN m)) (fun _ i _ => s.size - (intOf i).toNat)
 case atStart => exact ⟨0, 0, Nat.zero_le _, rfl, rfl, Lib.hid rfl⟩
 case round =>
  obtain ⟨k, m, hk, rfl, rfl, hw⟩ := hrel
  by_cases hlt : k < s.size
  ·obtain ⟨X, hX⟩ : ∃ X, (el s).getD k 0 = X := ⟨_, rfl⟩
   have hb := byte_val s k hlt X hX
   have ht := take_el s k hlt
   rw [hX] at ht
   have hv : vl ((el s).take (k + 1)) x = tms (vl ((el s).take k) x) x ^^^ X := by rw [ht, vl_snoc]
   obtain ⟨V, hV⟩ : ∃ V, vl ((el s).take k) x = V := ⟨_, rfl⟩
   rw [hV] at hv ⊢
   have c := fun W => (rtimes_any V x W).mono fun _ _ ⟨a, b⟩ => And.intro a b.symm
   obtain ⟨T, hT⟩ : ∃ T, tms V x = T := ⟨_, rfl⟩
   rw [hT] at c hv
   have hx := bxr T X
   rw [← hv] at hx
   have hv := Lib.hid hx
   have c := Lib.hid c
   have hi0 : (0 : Int) ≤ (k : Int) := by omega
   have hi1 : (k : Int) < (s.size : Int) := by omega
   clear hX ht hV hT hx
   go_wp2
   go_quiet ((go_at_call 93; exact Calls.quiet_of_same (c.out _)))
   go_wp2
   rename_i nq _
   go_roundw
   case rel => exact ⟨k + 1, m + nq, by omega, by go_num, congrArg (Value.int .u8) hv.out, Lib.hid (by rw [hw.out]; exact drewN_drewN w m nq)⟩
   case measure => simp [intOf]; omega
  ·have hi1 : ¬ (k : Int) < (s.size : Int) := by omega
   have hfin := Lib.hid (show vl (el s) x = vl ((el s).take k) x by rw [List.take_of_length_le (by rw [el_len]; omega)])
   go_wp2
   go_ret
   exact ⟨by rw [hfin.out]; rfl, m, hw.out⟩
end G7
namespace G7
open G5
open G6 (ev rs rs_len rs_get rs_snoc rs_append IsSl conv_sl mb info_byte)
open Go.RowKit Mem

theorem rs_one' (V : R) : rs [V] = [bv V] := rfl
theorem own_drewN {w : World} {base e size n : Nat} {v : Value} {xs : List Value} (h : w.ownsRow base e size v n xs) (m : Nat) : (w.drewN m).ownsRow base e size v n xs := h
set_option maxHeartbeats 2000000 in
theorem rsyn_any (s : ByteArray) (p : Nat) (w : World) (h1 : 1 ≤ p) (h2 : p ≤ 64) (h3 : p ≤ s.size) (h4 : s.size ≤ 255) : Calls Tryz.prog 102 #[.string s, .int .i64 (p : Int)] w (Synd p (el s) w) := by
 obtain ⟨i0, hi, hz0, hz1, hz2⟩ := info_parts info_byte
 have t1 : decide ((p : Int) < 1) = false := decide_eq_false (by omega)
 have t2 : decide ((64 : Int) < (p : Int)) = false := decide_eq_false (by omega)
 have t3 : decide (p < 1) = false := decide_eq_false (by omega)
 have t4 : decide (64 < p) = false := decide_eq_false (by omega)
 have t5 : decide (s.size < p) = false := decide_eq_false (by omega)
 have t6 : decide ((255 : Int) < (s.size : Int)) = false := decide_eq_false (by omega)
 have t7 : decide (255 < s.size) = false := decide_eq_false (by omega)
 go_enter Tryz.func102, Tryz.ntmps102
 go_wp2
 go_loopw [6, 7] (fun v a wr => ∃ k : Nat, k ≤ p ∧ a = .int .i64 k ∧ wr.ownsRow w.heap.size 5 1 v k (rs (syn k (el s))) ∧ Below w.heap.size w wr) (fun _ a _ => p - (intOf a).toNat)
 case atStart => exact ⟨0, Nat.zero_le _, rfl, empty_at rfl (Nat.le_refl _), (Below.refl _ _).alloc (Nat.le_refl _) _⟩
 case round =>
  obtain ⟨k, hk, rfl, hown, hb⟩ := hrel
  by_cases hlt : k < p
  ·have d1 : decide (k < p) = true := decide_eq_true hlt
   have cP := rpower_any k wr (by omega)
   have cV := rvalue_any s (it k 1) wr (by omega)
   have hsy := syn_succ k (el s)
   obtain ⟨X, hX⟩ : ∃ X, it k 1 = X := ⟨_, rfl⟩
   rw [hX] at cP cV hsy
   obtain ⟨V, hV⟩ : ∃ V, vl (el s) X = V := ⟨_, rfl⟩
   rw [hV] at cV hsy
   have hsy := Lib.hid hsy
   have cP := Lib.hid cP
   have cV := Lib.hid cV
   clear hX hV
   go_wp2_with fail
   refine cP.out.mono ?_
   rintro e w1 ⟨rfl, rfl⟩
   go_wp2_with fail
   refine cV.out.mono ?_
   rintro e w1 ⟨rfl, m, rfl⟩
   clear cP cV
   obtain ⟨W, hW⟩ : ∃ W, wr.drewN m = W := ⟨_, rfl⟩
   have hown1 := own_drewN hown m
   have hb1 := chainN hb m
   rw [hW] at hb1 hown1 ⊢
   clear hown hb hW
   go_wp2_with (at_builtin; refine wpList_append_own _ rfl _ _ 53 rfl w.heap.size 5 i0 (.int .u8 0) 1 1 Tryz.underlying53 hi hz0 hz1 hz2 rfl (by decide) _ _ _ rfl (hown1.alloc _) ⟨W.heap.size, 0, none⟩ 1 1 [bv V] rfl rfl (one_new _ _ _) (one_cell _ _) ?c3 ?c4 ?c5 ?_)
   case c3 => unfold maxLen; omega
   case c4 => omega
   case c5 => have := hb1.size; simp; omega
   intro v' w2 hown2 hgr _
   rw [← rs_one' V, ← rs_append, ← hsy.out] at hown2
   have hb2 := (hb1.alloc hb1.size _).grown hgr (by have := hb1.size; simp; omega) (fun j hj => (hown1.lt j hj).1)
   clear hown1 hgr hb1
   go_wp2
   go_roundw
   case rel => exact ⟨k + 1, by omega, by go_num, hown2, hb2⟩
   case measure => simp [intOf]; omega
  ·obtain rfl : k = p := by omega
   have d1 : decide (k < k) = false := decide_eq_false (by omega)
   obtain ⟨A', c', rfl, _, _⟩ := own_slice hown
   obtain ⟨hsl, hlen⟩ := IsSl.of_own hown
   have hsl := Lib.hid hsl
   clear hown hlen
   go_wp2
   go_ret2
   exact ⟨A', c', rfl, hsl.out, hb⟩
end G7
namespace G7
open G5
open G6 (ev ev_nil rs rs_len rs_get rs_snoc IsSl u8s take_snoc Gives info_byte conv_sl mb make_zeros own_zeros ev_one xz zx xac xcan zeros_at rs_set VAt.setR VAt.readR)
open Go.RowKit Mem

set_option maxHeartbeats 4000000 in
theorem rgen_any (p : Nat) (w : World) (h1 : 1 ≤ p) (h2 : p ≤ 64) :
  Calls Tryz.prog 92 #[.int .i64 (p : Int)] w fun e w' => ∃ A c, e = .returned (.tuple #[.slice A (p + 1) c, .int .i64 0]) ∧ IsSl w' A c (gen p) ∧ Below w.heap.size w w' := by
 have t1 : decide ((p : Int) < 1) = false := decide_eq_false (by omega)
 have t2 : decide ((64 : Int) < (p : Int)) = false := decide_eq_false (by omega)
 have t3 : decide (p < 1) = false := decide_eq_false (by omega)
 have t4 : decide (64 < p) = false := decide_eq_false (by omega)
 go_enter Tryz.func92, Tryz.ntmps92
 go_wp2
 go_loopw [4, 5] (fun v a wr => ∃ (E : Option Addr) (f i ng : Nat), v = .slice E ng f ∧ a = .int .i64 i ∧ i ≤ p ∧ ng ≤ 65 ∧ Hid (ng = i + 1) ∧ Hid (IsSl wr E f (gen i)) ∧ Below w.heap.size w wr) (fun _ a _ => p - (intOf a).toNat)
 case atStart => exact ⟨_, 1, 0, 1, rfl, rfl, Nat.zero_le _, by decide, Lib.hid rfl, Lib.hid (IsSl.made w 5 [1#8] #[.int .u8 1] _ 1 rfl rfl rfl (by decide)), mb w _⟩
 case round =>
  obtain ⟨E, f, i, ng, rfl, rfl, hi, hng, hni, hg, hb⟩ := hrel
  by_cases hlt : i < p
  ·have hiI : (i : Int) < (p : Int) := by omega
   obtain ⟨nn, hnn⟩ : ∃ nn, nn = ng + 1 := ⟨_, rfl⟩
   have hmk := make_zeros wr nn (by omega)
   have hat := zeros_at wr nn (by omega)
   have hnI : (ng : Int) + 1 = (nn : Int) := by omega
   have ob := mb wr (.cells (madeCells #[.int .u8 0] nn) 5)
   have hnnh := Lib.hid hnn
   have hnn66 : nn ≤ 66 := by omega
   clear hnn
   go_wp2
   clear hmk
   obtain ⟨G, hG⟩ : ∃ G, wr.heap.size = G := ⟨_, rfl⟩
   rw [hG] at hat ⊢
   have hGh := Lib.hid hG
   clear hG
   have hb2 := chain hb ob
   have hgl : G < (wr.alloc (.cells (madeCells #[.int .u8 0] nn) 5)).heap.size := by rw [← hGh.out]; simp
   go_loopw [7] (fun a wq => ∃ (l : List R) (k : Nat), a = .int .i64 k ∧ k ≤ ng ∧ Hid (l.length = nn ∧ ∀ x, ev l x = tms (ev ((gen i).take k) x) (it i 1 ^^^ x)) ∧ Hid (VAt wq G (rs l)) ∧ Hid (G < wq.heap.size) ∧ Below wr.heap.size wr wq) (fun a _ => ng - (intOf a).toNat)
   case atStart => exact ⟨List.replicate nn 0#8, 0, rfl, Nat.zero_le _, Lib.hid ⟨by simp, fun x => by rw [List.take_zero, ev_nil, zero_tms]; exact G6.ev_zeros nn x⟩, Lib.hid hat, Lib.hid hgl, ob⟩
   case round =>
    clear hat hgl ob hb2
    obtain ⟨l, k, rfl, hk, hl, hat, hgl, hbq⟩ := hrel
    by_cases hlk : k < ng
    ·obtain ⟨m, hm⟩ : ∃ m, m = k + 1 := ⟨_, rfl⟩
     have hgn : (gen i).length = ng := by rw [gen_len, hni.out]
     obtain ⟨b1, o1, rfl, hbl1, hc1⟩ := (hg.out.below hbq).read k (by rw [hgn]; exact hlk)
     obtain ⟨hn1, hf1⟩ := VAt.readR hat.out (k := m) (by rw [hl.out.1, hnnh.out]; omega)
     obtain ⟨X, hX⟩ : ∃ X, (gen i).getD k 0 = X := ⟨_, rfl⟩
     obtain ⟨Y, hY⟩ : ∃ Y, l.getD m 0 = Y := ⟨_, rfl⟩
     rw [hX] at hc1
     rw [hY] at hn1
     have hx1 := bxr Y X
     obtain ⟨S1, hS1⟩ : ∃ S1, Y ^^^ X = S1 := ⟨_, rfl⟩
     rw [hS1] at hx1
     have hS1h := Lib.hid hS1
     have hmI : (k : Int) + 1 = (m : Int) := by omega
     have i1 : (0 : Int) ≤ (k : Int) := by omega
     have i2 : (k : Int) < (ng : Int) := by omega
     have i3 : (0 : Int) ≤ (m : Int) := by omega
     have i4 : (m : Int) < (nn : Int) := by have := hnnh.out; omega
     have i5 : (k : Int) < (nn : Int) := by have := hnnh.out; omega
     have hmh := Lib.hid hm
     have hXh := Lib.hid hX
     have hYh := Lib.hid hY
     clear hm hX hY hgn hS1
     go_wp2
     go_region
     obtain ⟨W1, hW1⟩ : ∃ W1, (wr.setCell ⟨G, m, none⟩ (bv S1)).drew = W1 := ⟨_, rfl⟩
     have hml : m < l.length := by have := hl.out.1; omega
     have hat1 : VAt W1 G (rs (l.set m S1)) := by rw [← hW1]; exact (VAt.setR hat.out hml S1).drew
     have hbq0 := hbq.setCell (p := ⟨G, m, none⟩) (by rw [hGh.out]; exact Nat.le_refl _) (bv S1)
     have hbq1 := chainN hbq0 1
     rw [show (wr.setCell ⟨G, m, none⟩ (bv S1)).drewN 1 = W1 from hW1] at hbq1
     clear hbq0
     have hgl1 : G < W1.heap.size := by rw [← hW1]; simpa using hgl.out
     have hkl : k < l.length := by have := hmh.out; omega
     have hl1 : (l.set m S1).length = nn := by rw [List.length_set]; exact hl.out.1
     have hgk : (l.set m S1).getD k 0 = l.getD k 0 := by
      have hne : m ≠ k := by have := hmh.out; omega
      simp [List.getD_eq_getElem?_getD, List.getElem?_set_ne hne]
     obtain ⟨hn2, hf2⟩ := VAt.readR hat1 (k := k) (by rw [hl1, ← hl.out.1]; exact hkl)
     rw [hgk] at hn2
     obtain ⟨Z, hZ⟩ : ∃ Z, l.getD k 0 = Z := ⟨_, rfl⟩
     rw [hZ] at hn2
     have hgn : (gen i).length = ng := by rw [gen_len, hni.out]
     obtain ⟨b2, o2, hA, hbl2, hc2⟩ := (hg.out.below hbq1).read k (by rw [hgn]; exact hlk)
     injection hA with hA
     injection hA with hA1 hA2
     subst hA1 hA2
     rw [hXh.out] at hc2
     obtain ⟨b3, o3, hA3, hbl3, _⟩ := hg.out.read k (by rw [hgn]; exact hlk)
     injection hA3 with hA3
     injection hA3 with hA31 hA32
     have hbG : G ≠ b1 := by rw [← hGh.out, hA31]; omega
     clear hA31 hA32 hbl3
     have cP := fun W => (rpower_any i W (by omega)).mono fun _ _ ⟨a, b⟩ => And.intro a b.symm
     obtain ⟨P, hP⟩ : ∃ P, it i 1 = P := ⟨_, rfl⟩
     rw [hP] at cP
     have cT := fun W => (rtimes_any X P W).mono fun _ _ ⟨a, b⟩ => And.intro a b.symm
     obtain ⟨T, hT⟩ : ∃ T, tms X P = T := ⟨_, rfl⟩
     rw [hT] at cT
     have hx2 := bxr Z T
     obtain ⟨S2, hS2⟩ : ∃ S2, Z ^^^ T = S2 := ⟨_, rfl⟩
     rw [hS2] at hx2
     have hev : ∀ x, ev ((l.set m S1).set k S2) x = tms (ev ((gen i).take (k + 1)) x) (it i 1 ^^^ x) := fun x => by
      rw [ev_set x S2 _ k (by rw [hl1, ← hl.out.1]; exact hkl), ev_set x S1 l m hml, hgk, hYh.out, hZ, ← hS1h.out, ← hS2, hl.out.2 x, G6.ev_step (gen i) k (by rw [hgn]; exact hlk) x, hXh.out, hmh.out]
      show _ ^^^ tms (tms (pw x k) x) (Y ^^^ (Y ^^^ X)) ^^^ tms (pw x k) (Z ^^^ (Z ^^^ T)) = _
      rw [xcan, xcan, ← hT, hP]
      simp only [tms_a, tms_b, tms_assoc, BitVec.xor_assoc]
      rw [tms_comm (pw x k) (tms x X), tms_comm (pw x k) (tms X P)]
      simp only [tms_assoc]
      rw [tms_comm P (pw x k), G6.tac x X (pw x k), tms_comm x (pw x k)]
      simp only [BitVec.xor_assoc, BitVec.xor_comm, xac]
     have hev := Lib.hid hev
     have cP := Lib.hid cP
     have cT := Lib.hid cT
     have hZh := Lib.hid hZ
     rw [hW1]
     have hl1h := Lib.hid hl1
     have hklh := Lib.hid hkl
     have hmlh := Lib.hid hml
     have hat2 := Lib.hid (show VAt (W1.setCell ⟨G, k, none⟩ (bv S2)).drew G (rs ((l.set m S1).set k S2)) from (VAt.setR hat1 (by rw [hl1, ← hl.out.1]; exact hkl) S2).drew)
     have hbq2 := hbq1.setCell (p := ⟨G, k, none⟩) (by rw [hGh.out]; exact Nat.le_refl _) (bv S2)
     have hbq3 := chainN hbq2 1
     have hgl2 := Lib.hid (show G < (W1.setCell ⟨G, k, none⟩ (bv S2)).drew.heap.size by simpa using hgl1)
     have hll := Lib.hid (show ((l.set m S1).set k S2).length = nn by rw [List.length_set]; exact hl1)
     clear hbq2
     clear hat hbq hgl hc1 hn1 hf1 hx1 hgk hZ hP hT hS2 hW1 hgn hl1 hkl hml
     clear hXh hYh hmh hS1h hl1h hmlh hklh hZh
     go_wp2_with fail
     refine wp_region_still_tail 15 (by kernel_rfl) (by kernel_rfl) ?_
     simp only [List.take_succ_cons, List.take_zero, List.drop_succ_cons, List.drop_zero]
     repeat still_step
     still_call (cP.out _)
     repeat still_step
     still_call (cT.out _)
     repeat still_step
     refine wpStill_nil ?_
     change wpList _ _ _ _ _ W1.drew
     go_wp2
     go_roundw
     case rel => exact ⟨(l.set m S1).set k S2, k + 1, by go_num, by omega, Lib.hid ⟨hll.out, hev.out⟩, hat2, hgl2, hbq3⟩
     case measure => simp [intOf]; omega
    ·have hkI : ¬ (k : Int) < (ng : Int) := by omega
     have hgn : (gen i).length = ng := by rw [gen_len, hni.out]
     have hlg : l = gen (i + 1) := gen_next (by omega) (by rw [hl.out.1, hnnh.out, hni.out]) fun x => by rw [hl.out.2 x, List.take_of_length_le (by rw [hgn]; omega)]
     have hsl : IsSl wr (some ⟨G, 0, none⟩) nn (gen (i + 1)) := by rw [← hlg]; exact G6.IsSl.of_at hat.out hl.out.1 (by omega) hgl.out
     have hsl := Lib.hid hsl
     have hbb := hb.trans (hbq.mono hb.size)
     have hn2 := Lib.hid (show nn = i + 1 + 1 by rw [hnnh.out, hni.out])
     have hn65 : nn ≤ 65 := by have := hn2.out; omega
     clear hlg hgn hat hgl hl
     go_wp2
     go_roundw
     case rel => exact ⟨_, nn, i + 1, nn, rfl, by go_num, by omega, hn65, hn2, hsl, hbb⟩
     case measure => simp [intOf]; omega
  ·have hiI : ¬ (i : Int) < (p : Int) := by omega
   have hip : i = p := by omega
   have hnp := Lib.hid (show ng = p + 1 by rw [hni.out, hip])
   rw [hip] at hg
   clear hip
   go_wp2
   go_ret2
   exact ⟨E, f, by rw [hnp.out]; rfl, hg.out, hb⟩
end G7
namespace G7
open G5
open G6 (rs rs_len rs_append info_byte)
open Go.RowKit Mem

theorem bys_el (s : ByteArray) : bys s.data.toList = rs (el s) := by
 unfold bys rs el
 rw [List.map_map]
 rfl
theorem sl_tail {w : World} {g n c : Nat} {l : List R} (h : VAt w g (rs l)) (hc : l.length ≤ c) (hc2 : c ≤ 9223372036854775807) (hg : g < w.heap.size) (hn : n ≤ l.length) : G6.IsSl w (some ⟨g, n, none⟩) (c - n) (l.drop n) := by
 refine ⟨by rw [List.length_drop]; omega, by omega, (fun h => by cases h), fun j hj => ⟨g, n, rfl, hg, ?_⟩⟩
 have hj' : n + j < (rs l).length := by rw [rs_len, List.length_drop] at hj; rw [rs_len]; omega
 rw [(h (n + j) hj').1]
 simp [rs]
theorem rs_zeros (k : Nat) : List.replicate k (Value.int .u8 0) = rs (List.replicate k 0) := by
 unfold rs
 rw [List.map_replicate]
 rfl
theorem pad_bytes (w : World) (s : ByteArray) (k : Nat) (h0 : 0 < k) (hk : s.size + k ≤ 1000) : ∃ (cap : Nat) (W1 W2 : World) (G c : Nat),
  (convert 9 53 (.string s)).run Tryz.prog w = .ok (.slice (some ⟨w.heap.size, 0, none⟩) s.size cap) W1 ∧
  (Builtin.append_ #[53, 3] 53 #[.slice (some ⟨w.heap.size, 0, none⟩) s.size cap, .int .i64 (k : Int)]).run Tryz.prog W1 = .ok (.slice (some ⟨G, 0, none⟩) (s.size + k) c) W2 ∧
  s.size + k ≤ c ∧ c ≤ 9223372036854775807 ∧ VAt W2 G (rs (el s ++ List.replicate k 0)) ∧ w.heap.size ≤ G ∧ G < W2.heap.size ∧ Below w.heap.size w W2 := by
 obtain ⟨i0, hi, hz0, hz1, hz2⟩ := info_parts info_byte
 have hcv := run_bytes_of_string (P := Tryz.prog) w 9 53 5 s Tryz.underlying9 Tryz.underlying53 Tryz.underlying5
 have hge := grownCap_ge w s.size 0 5
 have hle := grownCap_le_maxLen w s.size 0 5 (by unfold maxLen; omega)
 obtain ⟨cap, hcap⟩ : ∃ cap, grownCap w s.size 0 5 = cap := ⟨_, rfl⟩
 rw [hcap] at hcv hge hle
 have hCs : (bytesRow s cap).size = cap := by simp [bytesRow]; omega
 rw [hCs] at hcv
 have hg : (w.drew.alloc (.cells (bytesRow s cap) 5 (cap, cap + 1))).heap[w.heap.size]? = some (.cells (bytesRow s cap) 5 (cap, cap + 1)) := by
  show (w.heap.push _)[w.heap.size]? = _
  simp
 have hlist : (bytesRow s cap).toList.take s.size = bys s.data.toList := by
  apply List.ext_getElem?
  intro j
  rw [List.getElem?_take]
  by_cases hj : j < s.size
  ·rw [if_pos hj, Array.getElem?_toList, bytesRow_at s cap j (by simpa using hj), bys_get _ _ (by simpa using hj)]
   rfl
  ·rw [if_neg hj, List.getElem?_eq_none (by rw [bys_len]; simp; omega)]
 obtain ⟨W2, G, c, hr, h1, h2, hp⟩ := append_zeros (P := Tryz.prog) (w.drew.alloc (.cells (bytesRow s cap) 5 (cap, cap + 1))) 53 3 53 5 i0 .i64 .i64 Tryz.underlying53 Tryz.underlying3 hi hz0 hz1 hz2
  w.heap.size s.size cap (bytesRow s cap) s.data.toList (by simp) hg hCs hge (by unfold maxLen at hle; omega) hlist k h0 (by omega)
 have hrow := hp.row
 rw [bys_el, rs_zeros, ← rs_append] at hrow
 exact ⟨cap, _, W2, G, c, hcv, hr, h1, h2, hrow, hp.lo, hp.lt, (((Below.refl _ w).drew.alloc (by simp) _).trans hp.below)⟩
end G7
namespace G7
open G5
open G6 (ev rs rs_len rs_get IsSl conv_sl mb rs_set VAt.setR VAt.readR)
open Go.RowKit Mem

set_option maxHeartbeats 4000000 in
theorem renc_any (s : ByteArray) (p : Nat) (w : World) (h1 : 1 ≤ p) (h2 : p ≤ 64) (h : s.size + p ≤ 255) :
  Calls Tryz.prog 49 #[.string s, .int .i64 (p : Int)] w (Encd p (el s) w) := by
 have cG := Lib.hid (rgen_any p w h1 h2)
 obtain ⟨n, hn⟩ : ∃ n, s.size = n := ⟨_, rfl⟩
 go_enter Tryz.func49, Tryz.ntmps49
 have hnh := Lib.hid hn
 clear hn
 go_wp2_with fail
 refine cG.out.mono ?_
 rintro e w1 ⟨A, c, rfl, hs1, hb⟩
 have hs1 := Lib.hid hs1
 have t1 : decide ((255 : Int) < (s.size : Int) + (p : Int)) = false := decide_eq_false (by omega)
 obtain ⟨cap, W1, W2, G, c2, hcv, hap, hc2, hc3, hat, hG, hGl, hb2⟩ := pad_bytes w1 s p (by omega) (by omega)
 have hap := Lib.hid hap
 go_wp2_with (with_reducible refine Go.Lib.wpList_append_run W1 rfl (.tmp 26) (.tmp 27) 53 3 rfl (.slice (some ⟨w1.heap.size, 0, none⟩) s.size cap) (.int .i64 (p : Int)) rfl rfl _ _ hap.out ?_)
 clear hcv hap cG
 have hnn : n + p ≤ 255 := by have := hnh.out; omega
 obtain ⟨N, hN⟩ : ∃ N, s.size + p = N := ⟨_, rfl⟩
 rw [hN] at hc2 ⊢
 have hNh := Lib.hid (show N = n + p by have := hnh.out; omega)
 clear hN
 have hst := Lib.hid (DV.start (el s) p)
 have hel := Lib.hid (show (el s).length = n by rw [el_len, hnh.out])
 have hat := Lib.hid hat
 have hGl := Lib.hid hGl
 go_wp2
 go_loopw [9] (fun a wr => ∃ (j : Nat) (r : List R), j ≤ n ∧ a = .int .i64 j ∧ Hid (DV (el s) p j r) ∧ Hid (VAt wr G (rs r)) ∧ Hid (G < wr.heap.size) ∧ Below w1.heap.size w1 wr) (fun a _ => n - (intOf a).toNat)
 case atStart => exact ⟨0, _, Nat.zero_le _, rfl, hst, hat, hGl, hb2⟩
 case round =>
  clear hst hat hGl hb2
  obtain ⟨j, r, hj, rfl, hdv, hat, hgl, hbq⟩ := hrel
  by_cases hlt : j < n
  ·have hrl : r.length = N := by rw [hdv.out.len, hel.out, hNh.out]
   obtain ⟨L, hL⟩ : ∃ L, r.getD j 0 = L := ⟨_, rfl⟩
   obtain ⟨hn1, hf1⟩ := VAt.readR hat.out (k := j) (by rw [hrl, hNh.out]; omega)
   rw [hL] at hn1
   have hdv2 := Lib.hid (hdv.out.step (by rw [hel.out]; exact hlt) hL)
   have d1 : decide (j < s.size) = true := decide_eq_true (by have := hnh.out; omega)
   have j0 : (0 : Int) ≤ (j : Int) := by omega
   have j1 : (j : Int) < (N : Int) := by have := hNh.out; omega
   have hat0 := Lib.hid (show VAt wr G (rs (row r (gen p) j p L 0)) by rw [row_zero]; exact hat.out)
   have hrlh := Lib.hid hrl
   have hjN := Lib.hid (show j + p < N by have := hNh.out; omega)
   have hN255 : N ≤ 255 := by have := hNh.out; omega
   clear hat hdv hL hrl
   go_wp2
   clear hn1 hf1
   go_loopw [11] (fun a wq => ∃ (k : Nat), k ≤ p + 1 ∧ a = .int .i64 k ∧ Hid (VAt wq G (rs (row r (gen p) j p L k))) ∧ Hid (G < wq.heap.size) ∧ Below w1.heap.size w1 wq) (fun a _ => p + 1 - (intOf a).toNat)
   case atStart => exact ⟨0, Nat.zero_le _, rfl, hat0, hgl, hbq⟩
   case round =>
    clear hat0 hgl hbq
    obtain ⟨k, hk, rfl, hat, hgl, hbq⟩ := hrel
    by_cases hlk : k < p + 1
    ·obtain ⟨m, hm⟩ : ∃ m, m = j + k := ⟨_, rfl⟩
     obtain ⟨q, hq⟩ : ∃ q, q = p - k := ⟨_, rfl⟩
     have hkr : j + k < r.length := by rw [hrlh.out]; have := hjN.out; omega
     have s1 := row_at (g := gen p) (p := p) (L := L) hkr hm
     have s2 := row_step (g := gen p) (p := p) (L := L) hkr hm hq
     have hml : m < (row r (gen p) j p L k).length := by rw [row_len, hm]; exact hkr
     obtain ⟨hn1, hf1⟩ := VAt.readR hat.out hml
     rw [s1] at hn1
     obtain ⟨b2, o2, rfl, hbl2, hc2'⟩ := (hs1.out.below hbq).read q (by rw [gen_len]; omega)
     obtain ⟨X, hX⟩ : ∃ X, r.getD m 0 = X := ⟨_, rfl⟩
     obtain ⟨Y, hY⟩ : ∃ Y, (gen p).getD q 0 = Y := ⟨_, rfl⟩
     rw [hX] at hn1 s2
     rw [hY] at hc2' s2
     have cT := fun W => (rtimes_any L Y W).mono fun _ _ ⟨a, b⟩ => And.intro a b.symm
     obtain ⟨T, hT⟩ : ∃ T, tms L Y = T := ⟨_, rfl⟩
     rw [hT] at cT s2
     have hx := bxr X T
     obtain ⟨S, hS⟩ : ∃ S, X ^^^ T = S := ⟨_, rfl⟩
     rw [hS] at hx s2
     have cT := Lib.hid cT
     have hat2 := Lib.hid (show VAt (wr.setCell ⟨G, m, none⟩ (bv S)).drew G (rs (row r (gen p) j p L (k + 1))) by
      have := (VAt.setR hat.out hml S).drew
      rw [s2] at this
      exact this)
     have hgl2 := Lib.hid (show G < (wr.setCell ⟨G, m, none⟩ (bv S)).drew.heap.size by simpa using hgl.out)
     have hbq2 := chainN (hbq.setCell (p := ⟨G, m, none⟩) hG (bv S)) 1
     have k1 : (k : Int) ≤ (p : Int) := by omega
     have k1' : k ≤ p := by omega
     have k0 : (0 : Int) ≤ (k : Int) := by omega
     have e1 : (j : Int) + (k : Int) = (m : Int) := by omega
     have e2 : (p : Int) - (k : Int) = (q : Int) := by omega
     have m0 : (0 : Int) ≤ (m : Int) := by omega
     have m1 : (m : Int) < (N : Int) := by have := hjN.out; omega
     have q0 : (0 : Int) ≤ (q : Int) := by omega
     have q1 : (q : Int) < (p : Int) + 1 := by omega
     have w1' : IntKind.i64.wrap (m : Int) = (m : Int) := by rw [IntKind.wrap_i64]; omega
     have w2' : IntKind.i64.wrap (q : Int) = (q : Int) := by rw [IntKind.wrap_i64]; omega
     clear hat hgl s1 s2 hkr hml hm hq hX hY hT hS
     go_wp2_with fail
     refine wp_region_still_tail 20 (by kernel_rfl) (by kernel_rfl) ?_
     simp only [List.take_succ_cons, List.take_zero, List.drop_succ_cons, List.drop_zero]
     repeat still_step
     still_call (cT.out _)
     repeat still_step
     refine wpStill_nil ?_
     change wpList _ _ _ _ _ wr.drew
     go_wp2
     go_roundw
     case rel => exact ⟨k + 1, by omega, by go_num, hat2, hgl2, hbq2⟩
     case measure => simp [intOf]; omega
    ·have k1 : ¬ (k : Int) ≤ (p : Int) := by omega
     have k1' : ¬ k ≤ p := by omega
     have hke : k = p + 1 := by omega
     rw [hke] at hat
     clear hke
     go_wp2
     go_roundw
     case rel => exact ⟨j + 1, _, by omega, by go_num, hdv2, hat, hgl, hbq⟩
     case measure => simp [intOf]; omega
  ·have hje : j = (el s).length := by rw [hel.out]; omega
   rw [hje] at hdv
   have hen := Lib.hid (hdv.out.done)
   have hrl : r.length = N := by rw [hdv.out.len, hel.out, hNh.out]
   have d1 : decide (j < s.size) = false := decide_eq_false (by have := hnh.out; omega)
   have d0 : ¬ j < s.size := by have := hnh.out; omega
   have f1 : (s.size : Int) ≤ (N : Int) := by have := hnh.out; have := hNh.out; omega
   have f2 : s.size ≤ N := by omega
   have f3 : s.size < c2 := by have := hnh.out; have := hNh.out; omega
   have hsl := sl_tail hat.out (by rw [hrl]; exact hc2) hc3 hgl.out (by rw [hrl]; omega : s.size ≤ r.length)
   have hsn : (r.drop s.size).length = N - s.size := by rw [List.length_drop, hrl]
   have hconv := conv_sl (P := Tryz.prog) (dst := 9) Tryz.underlying53 Tryz.underlying5 Tryz.underlying9 hsl hsn
   rw [el_len] at hen
   obtain ⟨t, ht⟩ : ∃ t, r.drop s.size = t := ⟨_, rfl⟩
   rw [ht] at hen hconv
   obtain ⟨T, hT⟩ : ∃ T, str t = T := ⟨_, rfl⟩
   rw [show (⟨(G6.u8s t).toArray⟩ : ByteArray) = T from hT] at hconv
   have hTl : T.size ≤ 255 := by rw [← hT, size_str, hen.out.1]; omega
   have hres := Lib.hid (show s ++ T = str (el s ++ t) by rw [← hT, ← str_app, str_el])
   have hsz : s.size ≤ 255 := by omega
   clear hat hgl hdv hrl hje hsl hsn ht hT
   go_wp2
   go_ret2
   exact ⟨t, hen.out, by rw [← hres.out]; rfl, chain hb hbq⟩
end G7
end Go.Proofs.YtiodkllckcpinaaGreatDoor
