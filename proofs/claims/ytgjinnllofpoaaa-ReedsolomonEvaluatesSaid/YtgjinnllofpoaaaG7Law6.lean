/- The walk of the law ReedsolomonEvaluates. -/
import Derived.Test.YtgjinnllofpoaaaG7Law1
import Derived.Deep.RegionHeld3
namespace Go.Proofs.Ytgjinnllofpoaaa.G7
open Go.Proofs.Ytgjinnllofpoaaa.G5
open Go.Proofs.Ytgjinnllofpoaaa.G6 (ev rs rs_len rs_get IsSl conv_sl mb VAt.setR VAt.readR getD_set make_zeros zeros_at eval_own)
open Go.RowKit Mem
set_option linter.unusedVariables false
set_option linter.unusedSimpArgs false

/-- The word turned round so far. -/
def pk (l : List R) (k : Nat) : List R := tab l.length fun m => if m < k then l.getD (l.length - 1 - m) 0 else 0
theorem pk_len (l : List R) (k : Nat) : (pk l k).length = l.length := tab_len _ _
theorem pk_zero (l : List R) : pk l 0 = List.replicate l.length 0 := (tab_eq (by simp) fun j hj => by rw [if_neg (by omega)]; exact gz _ _).symm
theorem pk_step {l : List R} {k : Nat} (h : k < l.length) : (pk l k).set k (l.getD (l.length - 1 - k) 0) = pk l (k + 1) := by
  unfold pk
  rw [tab_set _ _ _ _ h]
  refine tab_congr fun m hm => ?_
  by_cases e : m = k
  · subst e
    rw [if_pos rfl, if_pos (by omega)]
  · rw [if_neg e]
    by_cases e2 : m < k
    · rw [if_pos e2, if_pos (by omega)]
    · rw [if_neg e2, if_neg (by omega)]
theorem pk_done (l : List R) : pk l l.length = l.reverse := (tab_eq (by simp) fun m hm => by rw [if_pos hm, getD_rev _ _ hm]).symm

set_option maxRecDepth 100000 in
set_option maxHeartbeats 4000000 in
theorem walk_evaluates (s : ByteArray) (i2 : Int) (w : World) (hs : s.size ≤ 140737488351232) (h2 : (Lit.int .u8 i2).wf = true) :
    Calls Try.prog 10 #[.string s, .int .u8 i2] w fun e w' => e = .returned (.bool true) ∧ Below w.heap.size w w' := by
  obtain ⟨q, hq, rfl⟩ := u8_nat h2
  clear h2
  obtain ⟨p, hp⟩ : ∃ p, q % 64 + 1 = p := ⟨_, rfl⟩
  have e1 : (q : Int) % 64 + 1 = (p : Int) := by omega
  have hp1 : 1 ≤ p := by omega
  have hp64 : p ≤ 64 := by omega
  have cA := Lib.hid (fun W => awake_any W)
  clear hp
  by_cases hsh : s.size < p
  · have cS := Lib.hid (syn_short s p w hp1 hp64 hsh)
    have d1 : decide (s.size < p) = true := decide_eq_true hsh
    go_enter Try.func10, Try.ntmps10
    go_wp2_with fail
    refine cS.out.mono ?_
    rintro e w1 ⟨rfl, rfl⟩
    go_wp2_with fail
    refine (cA.out _).mono ?_
    rintro e w2 ⟨rfl, hb⟩
    go_wp2
    go_ret
    exact ⟨rfl, hb⟩
  by_cases hlo : 255 < s.size
  · have cS := Lib.hid (syn_long s p w hp1 hp64 hlo)
    have d1 : decide (s.size < p) = false := decide_eq_false hsh
    have d2 : decide ((255 : Int) < (s.size : Int)) = true := decide_eq_true (by omega)
    have d3 : decide (255 < s.size) = true := decide_eq_true hlo
    go_enter Try.func10, Try.ntmps10
    go_wp2_with fail
    refine cS.out.mono ?_
    rintro e w1 ⟨rfl, rfl⟩
    go_wp2_with fail
    refine (cA.out _).mono ?_
    rintro e w2 ⟨rfl, hb⟩
    go_wp2
    go_ret
    exact ⟨rfl, hb⟩
  obtain ⟨N, hN⟩ : ∃ N, s.size = N := ⟨_, rfl⟩
  have cS := Lib.hid (syn_own s p w hp1 hp64 (by omega) (by omega))
  have hNh := Lib.hid hN
  have hN1 : 1 ≤ N := by omega
  have hN2 : N ≤ 255 := by omega
  have hel := Lib.hid (show (el s).length = N by rw [el_len, hN])
  go_enter Try.func10, Try.ntmps10
  go_wp2_with fail
  refine cS.out.mono ?_
  rintro e w1 ⟨A, c, rfl, hsl, hb1⟩
  have hsl := Lib.hid hsl
  have hmk := make_zeros w1 s.size (by omega)
  have hat := zeros_at w1 s.size (by omega)
  have ob := mb w1 (.cells (madeCells #[.int .u8 0] s.size) 5)
  clear hN cS
  go_wp2
  clear hmk
  obtain ⟨G, hG⟩ : ∃ G, w1.heap.size = G := ⟨_, rfl⟩
  have hgl := Lib.hid (show G < (w1.alloc (.cells (madeCells #[.int .u8 0] s.size) 5)).heap.size by rw [← hG]; simp)
  rw [hG] at hat ⊢
  have hGh := Lib.hid hG
  have hat := Lib.hid (show VAt (w1.alloc (.cells (madeCells #[.int .u8 0] s.size) 5)) G (rs (pk (el s) 0)) by rw [pk_zero, el_len]; exact hat)
  clear hG
  go_loopw [40] (fun a wr => ∃ k : Nat, k ≤ N ∧ a = .int .i64 k ∧ Hid (VAt wr G (rs (pk (el s) k))) ∧ Hid (G < wr.heap.size) ∧ Below w1.heap.size w1 wr) (fun a _ => N - (intOf a).toNat)
  case atStart => exact ⟨0, Nat.zero_le _, rfl, hat, hgl, ob⟩
  case round =>
    clear hat hgl ob
    obtain ⟨k, hk, rfl, hat, hgl, hbq⟩ := hrel
    by_cases hlt : k < N
    · obtain ⟨M, hM⟩ : ∃ M, N = M + 1 := ⟨N - 1, by omega⟩
      obtain ⟨J, hJ⟩ : ∃ J, J = N - 1 - k := ⟨_, rfl⟩
      have hst := pk_step (l := el s) (k := k) (by rw [hel.out]; exact hlt)
      rw [hel.out, ← hJ] at hst
      have hJs : J < s.size := by have := hNh.out; omega
      obtain ⟨X, hX⟩ : ∃ X, (el s).getD J 0 = X := ⟨_, rfl⟩
      have hby := byte_val s J hJs X hX
      rw [hX] at hst
      obtain ⟨hn1, hf1⟩ := VAt.readR hat.out (k := k) (by rw [pk_len, hel.out]; exact hlt)
      have hat2 := Lib.hid (show VAt (wr.setCell ⟨G, k, none⟩ (bv X)) G (rs (pk (el s) (k + 1))) by
        have := VAt.setR hat.out (k := k) (by rw [pk_len, hel.out]; exact hlt) X
        rw [hst] at this
        exact this)
      have hgl2 := Lib.hid (show G < (wr.setCell ⟨G, k, none⟩ (bv X)).heap.size by simpa using hgl.out)
      have hb2 := hbq.setCell (p := ⟨G, k, none⟩) (by rw [hGh.out]; exact Nat.le_refl _) (bv X)
      have d1 : (k : Int) < (s.size : Int) := by have := hNh.out; omega
      have d2 : decide (k < s.size) = true := decide_eq_true (by have := hNh.out; omega)
      have k0 : (0 : Int) ≤ (k : Int) := by omega
      have e2 : (s.size : Int) - 1 = (M : Int) := by have := hNh.out; omega
      have e3 : (M : Int) - (k : Int) = (J : Int) := by omega
      have J0 : (0 : Int) ≤ (J : Int) := by omega
      have J1 : (J : Int) < (s.size : Int) := by omega
      clear hat hgl hst hX hM hJ hbq
      go_wp2
      go_roundw
      case rel => exact ⟨k + 1, by omega, by go_num, hat2, hgl2, hb2⟩
      case measure => simp [intOf]; omega
    · have hke : k = (el s).length := by rw [hel.out]; omega
      rw [hke, pk_done] at hat
      have hP := Lib.hid (IsSl.of_at hat.out (by rw [List.length_reverse, el_len] : (el s).reverse.length = s.size) (by omega) hgl.out)
      have hsl2 := Lib.hid (hsl.out.below hbq)
      have hB := chain hb1 hbq
      have d1 : ¬ (k : Int) < (s.size : Int) := by have := hNh.out; omega
      have d2 : decide (k < s.size) = false := decide_eq_false (by have := hNh.out; omega)
      clear hke hat hgl hbq hb1 hsl
      obtain ⟨W3, rfl⟩ : ∃ W3, W3 = wr := ⟨_, rfl⟩
      go_wp2
      go_loopw [56] (fun a wq => ∃ i : Nat, i ≤ p ∧ a = .int .i64 i ∧ Below W3.heap.size W3 wq) (fun a _ => p - (intOf a).toNat)
      case atStart => exact ⟨0, Nat.zero_le _, rfl, Below.refl _ _⟩
      case round =>
        obtain ⟨i, hi, rfl, hbq⟩ := hrel
        by_cases hip : i < p
        · have cE := fun W => exp_own (i : Int) W (by omega) (by omega)
          rw [ex_nat] at cE
          have hvl := vl_ev (el s) (it i 1)
          obtain ⟨b, o, rfl, hbl, hc⟩ := hsl2.out.read i (by rw [syn_len]; exact hip)
          rw [syn_get _ _ _ hip] at hc
          obtain ⟨x, hx⟩ : ∃ x, it i 1 = x := ⟨_, rfl⟩
          rw [hx] at cE hvl hc
          have cV := fun (W : World) (h : Below W3.heap.size W3 W) => eval_own x (hP.out.below h) (by rw [List.length_reverse, el_len]; omega)
          rw [List.length_reverse, el_len, ← hvl] at cV
          obtain ⟨V, hV⟩ : ∃ V, vl (el s) x = V := ⟨_, rfl⟩
          rw [hV] at cV hc
          have hcell : ∀ W, Below W3.heap.size W3 W → W.cell? ⟨b, o + i, none⟩ = some (bv V) := fun W h => (h.cell (p := ⟨b, o + i, none⟩) hbl).trans hc
          have cE := Lib.hid cE
          have cV := Lib.hid cV
          have keep1 : ∀ W, Below W3.heap.size W3 W → Below W3.heap.size W3 (World.drew W) := fun W h => chainN h 1
          have keep2 : ∀ W n, Below W3.heap.size W3 W → Below W3.heap.size W3 (World.drewN W n) := fun W n h => chainN h n
          have d3 : (i : Int) < (p : Int) := by omega
          have d4 : decide (i < p) = true := decide_eq_true hip
          have i0 : (0 : Int) ≤ (i : Int) := by omega
          clear hvl hx hV hc
          go_wp2_with fail
          go_region_held3 (fun W => Below W3.heap.size W3 W) (first | exact hbq | exact keep1 _ hbq | exact chain ‹_› ‹_› | exact keep2 _ _ ‹_› | assumption) (first | (go_at_call 24; (with_reducible refine (cE.out _).mono ?_); rintro e2 w9 ⟨rfl, hb2⟩) | (go_at_call 22; (with_reducible refine (cV.out _ (by first | assumption | exact chain (keep1 _ hbq) ‹_›)).mono ?_); rintro e3 w10 ⟨rfl, nn, rfl⟩))
          have hfin := chainN (chain (keep1 _ hbq) hb2) nn
          clear hcell keep1 keep2 cE cV
          go_wp2
          go_roundw
          case rel => exact ⟨i + 1, by omega, by go_num, hfin⟩
          case measure => simp [intOf]; omega
        · obtain rfl : i = p := by omega
          have d3 : ¬ (i : Int) < (i : Int) := by omega
          have d4 : decide (i < i) = false := decide_eq_false hip
          go_wp2_with fail
          refine (cA.out _).mono ?_
          rintro e w4 ⟨rfl, hb⟩
          go_wp2
          go_ret
          exact ⟨rfl, chain (chain hB hbq) hb⟩
end Go.Proofs.Ytgjinnllofpoaaa.G7
