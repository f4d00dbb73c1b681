/- The contracts of the landed Syndromes and IsCodeword. -/
import Derived.Test.YtkobcffkgaodbaaG7Own4
namespace Go.Proofs.Ytkobcffkgaodbaa.G7
open Go.Proofs.Ytkobcffkgaodbaa.G5
open Go.Proofs.Ytkobcffkgaodbaa.G6 (ev rs rs_len rs_get IsSl conv_sl mb VAt.setR VAt.readR getD_set make_zeros zeros_at eval_own)
open Go.RowKit Mem
set_option linter.unusedVariables false
set_option linter.unusedSimpArgs false

theorem syn_out (s : ByteArray) (p : Int) (w : World) (h : p < 1 ∨ 64 < p) : Calls Try.prog 22 #[.string s, .int .i64 p] w (NoSl 2 w) := by
  have cP := Lib.hid (par_no p w h)
  clear h
  go_enter Try.func22, Try.ntmps22
  go_wp2_with fail
  refine cP.out.mono ?_
  rintro e w1 ⟨rfl, rfl⟩
  go_wp2
  go_ret2
  exact ⟨rfl, rfl⟩
theorem syn_short (s : ByteArray) (p : Nat) (w : World) (h1 : 1 ≤ p) (h2 : p ≤ 64) (h : s.size < p) : Calls Try.prog 22 #[.string s, .int .i64 (p : Int)] w (NoSl 4 w) := by
  have cP := Lib.hid (par_yes (p : Int) w (by omega) (by omega))
  have t5 : decide (s.size < p) = true := decide_eq_true h
  go_enter Try.func22, Try.ntmps22
  go_wp2_with fail
  refine cP.out.mono ?_
  rintro e w1 ⟨rfl, rfl⟩
  go_wp2
  go_ret2
  exact ⟨rfl, rfl⟩
theorem syn_long (s : ByteArray) (p : Nat) (w : World) (h1 : 1 ≤ p) (h2 : p ≤ 64) (h : 255 < s.size) : Calls Try.prog 22 #[.string s, .int .i64 (p : Int)] w (NoSl 6 w) := by
  have cP := Lib.hid (par_yes (p : Int) w (by omega) (by omega))
  have t5 : decide (s.size < p) = false := decide_eq_false (by omega)
  have t6 : decide ((255 : Int) < (s.size : Int)) = true := decide_eq_true (by omega)
  have t7 : decide (255 < s.size) = true := decide_eq_true h
  go_enter Try.func22, Try.ntmps22
  go_wp2_with fail
  refine cP.out.mono ?_
  rintro e w1 ⟨rfl, rfl⟩
  go_wp2
  go_ret2
  exact ⟨rfl, rfl⟩
/-- '[]byte(s)' as a row of elements. -/
theorem bytes_row (w : World) (s : ByteArray) (hs : s.size ≤ 1000000) : ∃ (cap : Nat) (W : World), s.size ≤ cap ∧ cap ≤ 9223372036854775807 ∧ (convert 9 28 (.string s)).run Try.prog w = .ok (.slice (some ⟨w.heap.size, 0, none⟩) s.size cap) W ∧
    VAt W w.heap.size (rs (el s)) ∧ w.heap.size < W.heap.size ∧ Below w.heap.size w W := by
  have hcap := grownCap_ge w s.size 0 5
  have hle := grownCap_le_maxLen w s.size 0 5 (by unfold maxLen; omega)
  have hrun := run_bytes_of_string (P := Try.prog) w 9 28 5 s Try.underlying9 Try.underlying28 Try.underlying5
  obtain ⟨cap, hc⟩ : ∃ cap, grownCap w s.size 0 5 = cap := ⟨_, rfl⟩
  rw [hc] at hcap hle hrun
  have hCs : (bytesRow s cap).size = cap := by simp [bytesRow]; omega
  rw [hCs] at hrun
  refine ⟨cap, _, hcap, by unfold maxLen at hle; omega, hrun, fun j hj => ?_, by simp, (Below.refl _ w).drew.alloc (by simp) _⟩
  have hj' : j < s.data.size := by rw [rs_len, el_len] at hj; exact hj
  refine ⟨(World.cell?_alloc_mark w.drew _ _ _ j).trans ((bytesRow_at s cap j hj').trans ?_), (World.frozen?_alloc_mark w.drew _ _ _ _ j).trans ?_⟩
  · congr 1
    simp [rs, el]
  · have : j < s.size := hj'
    simp
    omega
theorem sl_at {w : World} {g c : Nat} {l : List R} (h : VAt w g (rs l)) (hc : l.length ≤ c) (hc2 : c ≤ 9223372036854775807) (hg : g < w.heap.size) : IsSl w (some ⟨g, 0, none⟩) c l :=
  ⟨hc, hc2, (fun h => by cases h), fun j hj => ⟨g, 0, rfl, hg, by rw [Nat.zero_add]; exact (h j hj).1⟩⟩
/-- The syndromes laid so far. -/
def sk (p : Nat) (d : List R) (k : Nat) : List R := tab p fun m => if m < k then vl d (it m 1) else 0
theorem sk_len (p : Nat) (d : List R) (k : Nat) : (sk p d k).length = p := tab_len _ _
theorem sk_zero (p : Nat) (d : List R) : sk p d 0 = List.replicate p 0 := (tab_eq (by simp) fun j hj => by rw [if_neg (by omega)]; exact gz _ _).symm
theorem sk_step {p : Nat} {d : List R} {k : Nat} (h : k < p) : (sk p d k).set k (vl d (it k 1)) = sk p d (k + 1) := by
  unfold sk
  rw [tab_set _ _ _ _ h]
  refine tab_congr fun m hm => ?_
  by_cases e : m = k
  · subst e
    rw [if_pos rfl, if_pos (by omega)]
  · rw [if_neg e]
    by_cases e2 : m < k
    · rw [if_pos e2, if_pos (by omega)]
    · rw [if_neg e2, if_neg (by omega)]
theorem sk_done (p : Nat) (d : List R) : sk p d p = syn p d := tab_congr fun m hm => if_pos hm

set_option maxRecDepth 100000 in
set_option maxHeartbeats 2000000 in
theorem syn_own (s : ByteArray) (p : Nat) (w : World) (h1 : 1 ≤ p) (h2 : p ≤ 64) (h3 : p ≤ s.size) (h4 : s.size ≤ 255) : Calls Try.prog 22 #[.string s, .int .i64 (p : Int)] w (Synd p (el s) w) := by
  have cP := Lib.hid (par_yes (p : Int) w (by omega) (by omega))
  have t5 : decide (s.size < p) = false := decide_eq_false (by omega)
  have t6 : decide ((255 : Int) < (s.size : Int)) = false := decide_eq_false (by omega)
  have t7 : decide (255 < s.size) = false := decide_eq_false (by omega)
  obtain ⟨cap, W, hcap, hcap2, hcv, hatW, hlW, hbW⟩ := bytes_row w s (by omega)
  have cR := Lib.hid (rev_own (c := cap) hatW (by rw [el_len] : (el s).length = s.size) (by omega) (by omega) hlW (Nat.le_refl _))
  clear hatW hlW
  go_enter Try.func22, Try.ntmps22
  go_wp2_with fail
  refine cP.out.mono ?_
  rintro e w1 ⟨rfl, rfl⟩
  clear cP
  go_wp2_with fail
  refine cR.out.mono ?_
  rintro e w2 ⟨rfl, hat2, hl2, hb2⟩
  have hbw2 := hbW.trans hb2
  have hP2 := Lib.hid (sl_at (c := cap) hat2 (by rw [List.length_reverse, el_len]; exact hcap) hcap2 hl2)
  clear cR hbW hb2 hat2 hl2 hcv
  have hmk := make_zeros w2 p (by omega)
  have hatS := zeros_at w2 p (by omega)
  have ob := mb w2 (.cells (madeCells #[.int .u8 0] p) 5)
  go_wp2
  clear hmk
  obtain ⟨S, hS⟩ : ∃ S, w2.heap.size = S := ⟨_, rfl⟩
  have hglS := Lib.hid (show S < (w2.alloc (.cells (madeCells #[.int .u8 0] p) 5)).heap.size by rw [← hS]; simp)
  rw [hS] at hatS ⊢
  have hSh := Lib.hid hS
  have hatS := Lib.hid (show VAt (w2.alloc (.cells (madeCells #[.int .u8 0] p) 5)) S (rs (sk p (el s) 0)) by rw [sk_zero]; exact hatS)
  clear hS
  go_loopw [29] (fun a wr => ∃ k : Nat, k ≤ p ∧ a = .int .i64 k ∧ Hid (VAt wr S (rs (sk p (el s) k))) ∧ Hid (S < wr.heap.size) ∧ Below w2.heap.size w2 wr) (fun a _ => p - (intOf a).toNat)
  case atStart => exact ⟨0, Nat.zero_le _, rfl, hatS, hglS, ob⟩
  case round =>
    clear hatS hglS ob
    obtain ⟨k, hk, rfl, hat, hgl, hb⟩ := hrel
    by_cases hlt : k < p
    · have hst := sk_step (d := el s) hlt
      have cE := exp_own (k : Int) wr (by omega) (by omega)
      rw [ex_nat] at cE
      have hvl := vl_ev (el s) (it k 1)
      obtain ⟨X, hX⟩ : ∃ X, it k 1 = X := ⟨_, rfl⟩
      rw [hX] at cE hst hvl
      have cE := Lib.hid cE
      have hst := Lib.hid hst
      have hvl := Lib.hid hvl
      have d0 : (k : Int) < (p : Int) := by omega
      have d1 : decide (k < p) = true := decide_eq_true hlt
      have k0 : (0 : Int) ≤ (k : Int) := by omega
      clear hX
      go_wp2_with fail
      refine cE.out.mono ?_
      rintro e w3 ⟨rfl, hb3⟩
      clear cE
      have hb4 := chain hb hb3
      have hat3 := hat.out.below hb3 hgl.out
      have hgl3 := Nat.lt_of_lt_of_le hgl.out hb3.size
      clear hat hgl hb hb3
      have cV := eval_own X (hP2.out.below hb4) (by rw [List.length_reverse, el_len]; omega)
      rw [List.length_reverse, el_len, ← hvl.out] at cV
      obtain ⟨V, hV⟩ : ∃ V, vl (el s) X = V := ⟨_, rfl⟩
      rw [hV] at cV
      have hVh := Lib.hid hV
      have cV := Lib.hid cV
      clear hV
      go_wp2_with fail
      with_reducible refine cV.out.mono ?_
      rintro e w4 ⟨rfl, m, rfl⟩
      have hb5 := chainN hb4 m
      have hat5 := VAt.drewN hat3 m
      obtain ⟨W5, hW5⟩ : ∃ W5, w3.drewN m = W5 := ⟨_, rfl⟩
      have hgl5 : S < W5.heap.size := by rw [← hW5]; exact hgl3
      rw [hW5] at hb5 hat5 ⊢
      obtain ⟨hn1, hf1⟩ := VAt.readR hat5 (k := k) (by rw [sk_len]; exact hlt)
      have hat6 := Lib.hid (show VAt (W5.setCell ⟨S, k, none⟩ (bv V)) S (rs (sk p (el s) (k + 1))) by
        have := VAt.setR hat5 (k := k) (by rw [sk_len]; exact hlt) V
        rw [← hVh.out, hst.out, hVh.out] at this
        exact this)
      have hgl6 := Lib.hid (show S < (W5.setCell ⟨S, k, none⟩ (bv V)).heap.size by simpa using hgl5)
      have hb6 := hb5.setCell (p := ⟨S, k, none⟩) (by rw [hSh.out]; exact Nat.le_refl _) (bv V)
      clear hb5 hat5 hgl5 cV hb4 hat3 hgl3 hW5 hst hvl hVh
      go_wp2
      go_roundw
      case rel => exact ⟨k + 1, by omega, by go_num, hat6, hgl6, hb6⟩
      case measure => simp [intOf]; omega
    · have hke : k = p := by omega
      rw [hke, sk_done] at hat
      have hsl := Lib.hid (IsSl.of_at hat.out (syn_len p (el s)) (by omega) hgl.out)
      have d0 : ¬ (k : Int) < (p : Int) := by omega
      have d1 : decide (k < p) = false := decide_eq_false hlt
      clear hke hat hgl
      go_wp2
      go_ret2
      exact ⟨_, p, rfl, hsl.out, chain hbw2 hb⟩
theorem isc_own (s : ByteArray) (p : Nat) (w : World) (h1 : 1 ≤ p) (h2 : p ≤ 64) (h3 : p ≤ s.size) (h4 : s.size ≤ 255) : Calls Try.prog 15 #[.string s, .int .i64 (p : Int)] w fun e w' => e = .returned (.bool (cwB p (el s))) ∧ Below w.heap.size w w' := by
  have cS := Lib.hid (syn_own s p w h1 h2 h3 h4)
  unfold cwB
  obtain ⟨B, hB⟩ : ∃ B, (syn p (el s)).all (· == 0) = B := ⟨_, rfl⟩
  have hBh := Lib.hid hB
  rw [hB]
  clear hB
  go_enter Try.func15, Try.ntmps15
  go_wp2_with fail
  refine cS.out.mono ?_
  rintro e w1 ⟨A, c, rfl, hsl, hb⟩
  have cH := has_own hsl (syn_len p (el s)) (by omega)
  rw [hBh.out] at cH
  have cH := Lib.hid cH
  clear cS hsl
  go_wp2_with fail
  refine cH.out.mono ?_
  rintro e w2 ⟨rfl, rfl⟩
  go_wp2
  go_ret
  exact ⟨by simp, hb⟩
end Go.Proofs.Ytkobcffkgaodbaa.G7
