/- The contracts of the reference's Generator (out of range) and Encode. -/
import Derived.Test.YtgjinnllofpoaaaG7Ref3
import Derived.Test.YtgjinnllofpoaaaG7Tab
import Derived.Test.YtgjinnllofpoaaaG7Pad
import Derived.StillTailTactics
namespace Go.Proofs.Ytgjinnllofpoaaa.G7
open Go.Proofs.Ytgjinnllofpoaaa.G5
open Go.Proofs.Ytgjinnllofpoaaa.G6 (ev rs rs_len rs_get IsSl conv_sl mb rs_set VAt.setR VAt.readR)
open Go.RowKit Mem
set_option linter.unusedVariables false
set_option linter.unusedSimpArgs false

theorem rgen_out (p : Int) (w : World) (h : p < 1 ∨ 64 < p) :
    Calls Try.prog 12 #[.int .i64 p] w (NoSl 2 w) := by
  rcases h with h | h
  · have t1 : decide (p < 1) = true := decide_eq_true h
    go_enter Try.func12, Try.ntmps12
    go_wp2
    go_ret2
    exact ⟨rfl, rfl⟩
  · have t1 : decide (p < 1) = false := decide_eq_false (by omega)
    have t2 : decide (64 < p) = true := decide_eq_true h
    go_enter Try.func12, Try.ntmps12
    go_wp2
    go_ret2
    exact ⟨rfl, rfl⟩
theorem renc_out (s : ByteArray) (p : Int) (w : World) (h : p < 1 ∨ 64 < p) :
    Calls Try.prog 14 #[.string s, .int .i64 p] w (NoStr 2 w) := by
  have cG := Lib.hid (rgen_out p w h)
  clear h
  go_enter Try.func14, Try.ntmps14
  go_wp2_with fail
  refine cG.out.mono ?_
  rintro e w1 ⟨rfl, rfl⟩
  go_wp2
  go_ret2
  exact ⟨rfl, Below.refl _ _⟩
theorem renc_long (s : ByteArray) (p : Nat) (w : World) (h1 : 1 ≤ p) (h2 : p ≤ 64) (hs : s.size ≤ 9223372036854775000) (h : 255 < s.size + p) :
    Calls Try.prog 14 #[.string s, .int .i64 (p : Int)] w (NoStr 6 w) := by
  have cG := Lib.hid (rgen_any p w h1 h2)
  go_enter Try.func14, Try.ntmps14
  go_wp2_with fail
  refine cG.out.mono ?_
  rintro e w1 ⟨A, c, rfl, hs1, hb⟩
  have hs1 := Lib.hid hs1
  have t1 : decide ((255 : Int) < (s.size : Int) + (p : Int)) = true := decide_eq_true (by omega)
  go_wp2
  go_ret2
  exact ⟨rfl, hb⟩
set_option maxRecDepth 100000 in
set_option maxHeartbeats 4000000 in
theorem renc_any (s : ByteArray) (p : Nat) (w : World) (h1 : 1 ≤ p) (h2 : p ≤ 64) (h : s.size + p ≤ 255) :
    Calls Try.prog 14 #[.string s, .int .i64 (p : Int)] w (Encd p (el s) w) := by
  have cG := Lib.hid (rgen_any p w h1 h2)
  obtain ⟨n, hn⟩ : ∃ n, s.size = n := ⟨_, rfl⟩
  go_enter Try.func14, Try.ntmps14
  have hnh := Lib.hid hn
  clear hn
  go_wp2_with fail
  refine cG.out.mono ?_
  rintro e w1 ⟨A, c, rfl, hs1, hb⟩
  have hs1 := Lib.hid hs1
  have t1 : decide ((255 : Int) < (s.size : Int) + (p : Int)) = false := decide_eq_false (by omega)
  obtain ⟨cap, W1, W2, G, c2, hcv, hap, hc2, hc3, hat, hG, hGl, hb2⟩ := pad_bytes w1 s p (by omega) (by omega)
  have hap := Lib.hid hap
  go_wp2_with (with_reducible refine Go.Lib.wpList_append_run W1 rfl (.tmp 26) (.tmp 27) 22 3 rfl (.slice (some ⟨w1.heap.size, 0, none⟩) s.size cap) (.int .i64 (p : Int)) rfl rfl _ _ hap.out ?_)
  clear hcv hap cG
  have hnn : n + p ≤ 255 := by have := hnh.out; omega
  obtain ⟨N, hN⟩ : ∃ N, s.size + p = N := ⟨_, rfl⟩
  rw [hN] at hc2 ⊢
  have hNh := Lib.hid (show N = n + p by have := hnh.out; omega)
  clear hN
  have hst := Lib.hid (DV.start (el s) p)
  have hel := Lib.hid (show (el s).length = n by rw [el_len, hnh.out])
  have hat := Lib.hid hat
  have hGl := Lib.hid hGl
  go_wp2
  go_loopw [9] (fun a wr => ∃ (j : Nat) (r : List R), j ≤ n ∧ a = .int .i64 j ∧ Hid (DV (el s) p j r) ∧ Hid (VAt wr G (rs r)) ∧ Hid (G < wr.heap.size) ∧ Below w1.heap.size w1 wr) (fun a _ => n - (intOf a).toNat)
  case atStart => exact ⟨0, _, Nat.zero_le _, rfl, hst, hat, hGl, hb2⟩
  case round =>
    clear hst hat hGl hb2
    obtain ⟨j, r, hj, rfl, hdv, hat, hgl, hbq⟩ := hrel
    by_cases hlt : j < n
    · have hrl : r.length = N := by rw [hdv.out.len, hel.out, hNh.out]
      obtain ⟨L, hL⟩ : ∃ L, r.getD j 0 = L := ⟨_, rfl⟩
      obtain ⟨hn1, hf1⟩ := VAt.readR hat.out (k := j) (by rw [hrl, hNh.out]; omega)
      rw [hL] at hn1
      have hdv2 := Lib.hid (hdv.out.step (by rw [hel.out]; exact hlt) hL)
      have d1 : decide (j < s.size) = true := decide_eq_true (by have := hnh.out; omega)
      have j0 : (0 : Int) ≤ (j : Int) := by omega
      have j1 : (j : Int) < (N : Int) := by have := hNh.out; omega
      have hat0 := Lib.hid (show VAt wr G (rs (row r (gen p) j p L 0)) by rw [row_zero]; exact hat.out)
      have hrlh := Lib.hid hrl
      have hjN := Lib.hid (show j + p < N by have := hNh.out; omega)
      have hN255 : N ≤ 255 := by have := hNh.out; omega
      clear hat hdv hL hrl
      go_wp2
      clear hn1 hf1
      go_loopw [11] (fun a wq => ∃ (k : Nat), k ≤ p + 1 ∧ a = .int .i64 k ∧ Hid (VAt wq G (rs (row r (gen p) j p L k))) ∧ Hid (G < wq.heap.size) ∧ Below w1.heap.size w1 wq) (fun a _ => p + 1 - (intOf a).toNat)
      case atStart => exact ⟨0, Nat.zero_le _, rfl, hat0, hgl, hbq⟩
      case round =>
        clear hat0 hgl hbq
        obtain ⟨k, hk, rfl, hat, hgl, hbq⟩ := hrel
        by_cases hlk : k < p + 1
        · obtain ⟨m, hm⟩ : ∃ m, m = j + k := ⟨_, rfl⟩
          obtain ⟨q, hq⟩ : ∃ q, q = p - k := ⟨_, rfl⟩
          have hkr : j + k < r.length := by rw [hrlh.out]; have := hjN.out; omega
          have s1 := row_at (g := gen p) (p := p) (L := L) hkr hm
          have s2 := row_step (g := gen p) (p := p) (L := L) hkr hm hq
          have hml : m < (row r (gen p) j p L k).length := by rw [row_len, hm]; exact hkr
          obtain ⟨hn1, hf1⟩ := VAt.readR hat.out hml
          rw [s1] at hn1
          obtain ⟨b2, o2, rfl, hbl2, hc2'⟩ := (hs1.out.below hbq).read q (by rw [gen_len]; omega)
          obtain ⟨X, hX⟩ : ∃ X, r.getD m 0 = X := ⟨_, rfl⟩
          obtain ⟨Y, hY⟩ : ∃ Y, (gen p).getD q 0 = Y := ⟨_, rfl⟩
          rw [hX] at hn1 s2
          rw [hY] at hc2' s2
          have cT := fun W => (rtimes_any L Y W).mono fun _ _ ⟨a, b⟩ => And.intro a b.symm
          obtain ⟨T, hT⟩ : ∃ T, tms L Y = T := ⟨_, rfl⟩
          rw [hT] at cT s2
          have hx := bxr X T
          obtain ⟨S, hS⟩ : ∃ S, X ^^^ T = S := ⟨_, rfl⟩
          rw [hS] at hx s2
          have cT := Lib.hid cT
          have hat2 := Lib.hid (show VAt (wr.setCell ⟨G, m, none⟩ (bv S)).drew G (rs (row r (gen p) j p L (k + 1))) by
            have := (VAt.setR hat.out hml S).drew
            rw [s2] at this
            exact this)
          have hgl2 := Lib.hid (show G < (wr.setCell ⟨G, m, none⟩ (bv S)).drew.heap.size by simpa using hgl.out)
          have hbq2 := chainN (hbq.setCell (p := ⟨G, m, none⟩) hG (bv S)) 1
          have k1 : (k : Int) ≤ (p : Int) := by omega
          have k1' : k ≤ p := by omega
          have k0 : (0 : Int) ≤ (k : Int) := by omega
          have e1 : (j : Int) + (k : Int) = (m : Int) := by omega
          have e2 : (p : Int) - (k : Int) = (q : Int) := by omega
          have m0 : (0 : Int) ≤ (m : Int) := by omega
          have m1 : (m : Int) < (N : Int) := by have := hjN.out; omega
          have q0 : (0 : Int) ≤ (q : Int) := by omega
          have q1 : (q : Int) < (p : Int) + 1 := by omega
          have w1' : IntKind.i64.wrap (m : Int) = (m : Int) := by rw [IntKind.wrap_i64]; omega
          have w2' : IntKind.i64.wrap (q : Int) = (q : Int) := by rw [IntKind.wrap_i64]; omega
          clear hat hgl s1 s2 hkr hml hm hq hX hY hT hS
          go_wp2_with fail
          refine wp_region_still_tail 20 (by kernel_rfl) (by kernel_rfl) ?_
          simp only [List.take_succ_cons, List.take_zero, List.drop_succ_cons, List.drop_zero]
          repeat still_step
          still_call (cT.out _)
          repeat still_step
          refine wpStill_nil ?_
          change wpList _ _ _ _ _ wr.drew
          go_wp2
          go_roundw
          case rel => exact ⟨k + 1, by omega, by go_num, hat2, hgl2, hbq2⟩
          case measure => simp [intOf]; omega
        · have k1 : ¬ (k : Int) ≤ (p : Int) := by omega
          have k1' : ¬ k ≤ p := by omega
          have hke : k = p + 1 := by omega
          rw [hke] at hat
          clear hke
          go_wp2
          go_roundw
          case rel => exact ⟨j + 1, _, by omega, by go_num, hdv2, hat, hgl, hbq⟩
          case measure => simp [intOf]; omega
    · have hje : j = (el s).length := by rw [hel.out]; omega
      rw [hje] at hdv
      have hen := Lib.hid (hdv.out.done)
      have hrl : r.length = N := by rw [hdv.out.len, hel.out, hNh.out]
      have d1 : decide (j < s.size) = false := decide_eq_false (by have := hnh.out; omega)
      have d0 : ¬ j < s.size := by have := hnh.out; omega
      have f1 : (s.size : Int) ≤ (N : Int) := by have := hnh.out; have := hNh.out; omega
      have f2 : s.size ≤ N := by omega
      have f3 : s.size < c2 := by have := hnh.out; have := hNh.out; omega
      have hsl := sl_tail hat.out (by rw [hrl]; exact hc2) hc3 hgl.out (by rw [hrl]; omega : s.size ≤ r.length)
      have hsn : (r.drop s.size).length = N - s.size := by rw [List.length_drop, hrl]
      have hconv := conv_sl (P := Try.prog) (dst := 9) Try.underlying22 Try.underlying5 Try.underlying9 hsl hsn
      rw [el_len] at hen
      obtain ⟨t, ht⟩ : ∃ t, r.drop s.size = t := ⟨_, rfl⟩
      rw [ht] at hen hconv
      obtain ⟨T, hT⟩ : ∃ T, str t = T := ⟨_, rfl⟩
      rw [show (⟨(G6.u8s t).toArray⟩ : ByteArray) = T from hT] at hconv
      have hTl : T.size ≤ 255 := by rw [← hT, size_str, hen.out.1]; omega
      have hres := Lib.hid (show s ++ T = str (el s ++ t) by rw [← hT, ← str_app, str_el])
      have hsz : s.size ≤ 255 := by omega
      clear hat hgl hdv hrl hje hsl hsn ht hT
      go_wp2
      go_ret2
      exact ⟨t, hen.out, by rw [← hres.out]; rfl, chain hb hbq⟩
end Go.Proofs.Ytgjinnllofpoaaa.G7
