/- The contracts of the landed remainder and Encode. -/
import Derived.Test.YtkobcffkgaodbaaG7Own2
namespace Go.Proofs.Ytkobcffkgaodbaa.G7
open Go.Proofs.Ytkobcffkgaodbaa.G5
open Go.Proofs.Ytkobcffkgaodbaa.G6 (ev rs rs_len rs_get IsSl conv_sl mb VAt.setR VAt.readR)
open Go.RowKit Mem
set_option linter.unusedVariables false
set_option linter.unusedSimpArgs false

theorem info_arr : (Try.prog.info? 80).map (fun i => (i.zero, i.size, i.bytes)) = some (some (.agg (rs (List.replicate 65 0#8)).toArray), 65, 65) := by kernel_rfl
theorem zero_arr (w : World) : (zeroValue 80).run Try.prog w = .ok (.agg (rs (List.replicate 65 0#8)).toArray) w := by
  obtain ⟨i0, hi, hz0, hz1, hz2⟩ := info_parts info_arr
  simp [zeroValue, typeInfo, hi, hz0]

set_option maxRecDepth 100000 in
set_option maxHeartbeats 2000000 in
theorem rem_own (p : Nat) (h1 : 1 ≤ p) (h2 : p ≤ 64) {A : Option Addr} {c : Nat} {w : World} (d : ByteArray) (hd : d.size ≤ 1000) (hA : IsSl w A c (gen p)) :
    Calls Try.prog 34 #[.string d, .slice A (p + 1) c] w
      fun e w' => ∃ t, IsEnc p (el d) t ∧ e = .returned (.string (str t)) ∧ Below w.heap.size w w' := by
  have hmf : ∀ (fn : Fn) (first cap : Array Value) (w : World), (Instr.makeFunc fn first cap).run Try.prog w = .ok (.func fn first cap) w := fun _ _ _ _ => rfl
  have e1 : ((p : Int) + 1) - 1 = (p : Int) := by omega
  have hAh := Lib.hid hA
  clear hA
  go_enter Try.func34, Try.ntmps34
  have hz := zero_arr
  obtain ⟨Z, hZ⟩ : ∃ Z : Array Value, (rs (List.replicate 65 0#8)).toArray = Z := ⟨_, rfl⟩
  rw [hZ] at hz
  have hZh := Lib.hid hZ
  clear hZ
  go_wp2
  clear hz
  obtain ⟨W0, hW0⟩ : ∃ W0, (w.alloc (.cells #[.slice A (p + 1) c] 28)).alloc (.cells #[.int .i64 (p : Int)] 3) = W0 := ⟨_, rfl⟩
  obtain ⟨S, hS⟩ : ∃ S, w.heap.size + 1 + 1 = S := ⟨_, rfl⟩
  have hW0S : W0.heap.size = S := by rw [← hW0, ← hS]; simp
  have hbW : Below w.heap.size w W0 := by rw [← hW0]; exact chain (mb w _) (mb _ _)
  have hcP : W0.cell? ⟨w.heap.size + 1, 0, none⟩ = some (.int .i64 (p : Int)) := by
    rw [← hW0]
    simp
  have hcG : W0.cell? ⟨w.heap.size, 0, none⟩ = some (.slice A (p + 1) c) := by
    rw [← hW0]
    refine ((mb (w.alloc (.cells #[.slice A (p + 1) c] 28)) (.cells #[.int .i64 (p : Int)] 3)).cell (p := ⟨w.heap.size, 0, none⟩) (by simp)).trans ?_
    simp
  have hA0 : IsSl W0 A c (gen p) := hAh.out.below hbW
  have hatS : VAt (W0.alloc (.cells Z 80)) S (rs (List.replicate 65 0)) := (G6.at_of_heap (e := 80) (by rw [← hW0S, ← hZh.out]; exact heap_alloc_new W0 _)).1
  have hglS : S < (W0.alloc (.cells Z 80)).heap.size := by rw [← hW0S]; simp
  have hb0 := mb W0 (.cells Z 80)
  rw [hW0, hS]
  have hW0Sh := Lib.hid hW0S
  have hSh := Lib.hid hS
  have hcPh := Lib.hid hcP
  have hcGh := Lib.hid hcG
  have hA0h := Lib.hid hA0
  have hatS := Lib.hid hatS
  have hglS := Lib.hid hglS
  have hst := Lib.hid (SR.start p h2)
  clear hW0 hW0S hS hcP hcG hA0 hmf e1 hAh
  go_loopw [15] (fun a wr => ∃ (k : Nat) (s : List R), k ≤ d.size ∧ a = .int .i64 k ∧ Hid (SR p ((el d).take k) s) ∧ Hid (VAt wr S (rs s)) ∧ Hid (S < wr.heap.size) ∧ Below W0.heap.size W0 wr) (fun a _ => d.size - (intOf a).toNat)
  case atStart => exact ⟨0, _, Nat.zero_le _, rfl, hst, hatS, hglS, hb0⟩
  case round =>
    clear hst hatS hglS hb0 hZh
    obtain ⟨k, s, hk, rfl, hsr, hat, hgl, hb⟩ := hrel
    by_cases hlt : k < d.size
    · obtain ⟨X, hX⟩ : ∃ X, (el d).getD k 0 = X := ⟨_, rfl⟩
      have hby := byte_val d k hlt X hX
      have htk := take_el d k hlt
      rw [hX] at htk
      obtain ⟨F, hF⟩ : ∃ F, s.getD 0 0 ^^^ X = F := ⟨_, rfl⟩
      have hsr2 := Lib.hid (show SR p ((el d).take (k + 1)) (shf s (gen p) p F p) by rw [htk]; exact hsr.out.step h1 h2 hF)
      have cS := Lib.hid (shift_own p h1 h2 (P := w.heap.size + 1) (Gb := w.heap.size) X F hW0Sh.out (by rw [← hSh.out]; omega) (by rw [← hSh.out]; omega) hcPh.out hcGh.out hA0h.out hb hsr.out.len hat.out hgl.out hF)
      have d1 : (k : Int) < (d.size : Int) := by omega
      have d2 : decide (k < d.size) = true := decide_eq_true hlt
      have k0 : (0 : Int) ≤ (k : Int) := by omega
      clear hX htk hF hat hgl hb hsr
      go_wp2_with fail
      refine cS.out.mono ?_
      rintro e w1 ⟨rfl, hat, hgl, hb⟩
      have hat := Lib.hid hat
      have hgl := Lib.hid hgl
      clear cS hby
      go_wp2
      go_roundw
      case rel => exact ⟨k + 1, _, by omega, by go_num, hsr2, hat, hgl, hb⟩
      case measure => simp [intOf]; omega
    · have hke : k = d.size := by omega
      rw [hke, List.take_of_length_le (by rw [el_len]; omega)] at hsr
      have hen := Lib.hid (hsr.out.done h2)
      have d1 : ¬ (k : Int) < (d.size : Int) := by omega
      have d2 : decide (k < d.size) = false := decide_eq_false (by omega)
      have hsl := (G6.IsSl.of_at hat.out hsr.out.len (by omega) hgl.out).front p rfl
      have hconv := conv_sl (P := Try.prog) (dst := 9) Try.underlying28 Try.underlying5 Try.underlying9 hsl hen.out.1
      have cP := (hb.cell (p := ⟨w.heap.size + 1, 0, none⟩) (by rw [hW0Sh.out, ← hSh.out]; simp)).trans hcPh.out
      obtain ⟨t, ht⟩ : ∃ t, s.take p = t := ⟨_, rfl⟩
      rw [ht] at hen hconv
      have f1 : (p : Int) ≤ 65 := by omega
      have f2 : p ≤ 65 := by omega
      have f0 : (0 : Int) ≤ (p : Int) := by omega
      clear hke hsl ht hat hgl hsr
      go_wp2
      go_ret
      exact ⟨t, hen.out, rfl, chain hbW hb⟩

theorem enc_out (s : ByteArray) (p : Int) (w : World) (h : p < 1 ∨ 64 < p) : Calls Try.prog 13 #[.string s, .int .i64 p] w (NoStr 2 w) := by
  have cG := Lib.hid (gen_out p w h)
  clear h
  go_enter Try.func13, Try.ntmps13
  go_wp2_with fail
  refine cG.out.mono ?_
  rintro e w1 ⟨rfl, rfl⟩
  go_wp2
  go_ret2
  exact ⟨rfl, Below.refl _ _⟩
theorem enc_long (s : ByteArray) (p : Nat) (w : World) (h1 : 1 ≤ p) (h2 : p ≤ 64) (hs : s.size ≤ 9223372036854775000) (h : 255 < s.size + p) : Calls Try.prog 13 #[.string s, .int .i64 (p : Int)] w (NoStr 6 w) := by
  have cG := Lib.hid (gen_own p w h1 h2)
  go_enter Try.func13, Try.ntmps13
  go_wp2_with fail
  refine cG.out.mono ?_
  rintro e w1 ⟨A, c, rfl, hs1, hb⟩
  have hs1 := Lib.hid hs1
  have t1 : decide ((255 : Int) < (s.size : Int) + (p : Int)) = true := decide_eq_true (by omega)
  go_wp2
  go_ret2
  exact ⟨rfl, hb⟩
theorem enc_own (s : ByteArray) (p : Nat) (w : World) (h1 : 1 ≤ p) (h2 : p ≤ 64) (h : s.size + p ≤ 255) : Calls Try.prog 13 #[.string s, .int .i64 (p : Int)] w (Encd p (el s) w) := by
  have cG := Lib.hid (gen_own p w h1 h2)
  have t1 : decide ((255 : Int) < (s.size : Int) + (p : Int)) = false := decide_eq_false (by omega)
  have hsz : s.size ≤ 255 := by omega
  go_enter Try.func13, Try.ntmps13
  go_wp2_with fail
  refine cG.out.mono ?_
  rintro e w1 ⟨A, c, rfl, hs1, hb⟩
  have cR := Lib.hid (rem_own p h1 h2 s (by omega) hs1)
  clear cG hs1
  go_wp2_with fail
  refine cR.out.mono ?_
  rintro e w2 ⟨t, hen, rfl, hb2⟩
  obtain ⟨T, hT⟩ : ∃ T, str t = T := ⟨_, rfl⟩
  have hTl : T.size ≤ 255 := by rw [← hT, size_str, hen.1]; omega
  have hres := Lib.hid (show s ++ T = str (el s ++ t) by rw [← hT, ← str_app, str_el])
  rw [hT]
  have hen := Lib.hid hen
  clear hT cR
  go_wp2
  go_ret2
  exact ⟨t, hen.out, by rw [← hres.out]; rfl, chain hb hb2⟩
end Go.Proofs.Ytkobcffkgaodbaa.G7
