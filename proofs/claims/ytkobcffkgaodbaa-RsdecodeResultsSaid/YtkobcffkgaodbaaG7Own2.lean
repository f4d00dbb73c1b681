/- The contract of the landed function that shifts the parity symbols. -/
import Derived.Test.YtkobcffkgaodbaaG7Own1
namespace Go.Proofs.Ytkobcffkgaodbaa.G7
open Go.Proofs.Ytkobcffkgaodbaa.G5
open Go.Proofs.Ytkobcffkgaodbaa.G6 (ev rs rs_len rs_get IsSl mb VAt.setR VAt.readR)
open Go.RowKit Mem
set_option linter.unusedVariables false
set_option linter.unusedSimpArgs false

set_option maxRecDepth 100000 in
set_option maxHeartbeats 2000000 in
theorem shift_own (p : Nat) (h1 : 1 ≤ p) (h2 : p ≤ 64) {S P Gb : Nat} {A : Option Addr} {c : Nat} {w0 w : World} (X F : R) {s : List R}
    (hS : w0.heap.size = S) (hP : P < S) (hG : Gb < S) (hcP : w0.cell? ⟨P, 0, none⟩ = some (.int .i64 (p : Int))) (hcG : w0.cell? ⟨Gb, 0, none⟩ = some (.slice A (p + 1) c)) (hA : IsSl w0 A c (gen p))
    (hb : Below w0.heap.size w0 w) (hs : s.length = 65) (hat : VAt w S (rs s)) (hgl : S < w.heap.size) (hF : s.getD 0 0 ^^^ X = F) :
    Calls Try.prog 60 #[bv X, .pointer (some ⟨S, 0, none⟩), .pointer (some ⟨P, 0, none⟩), .pointer (some ⟨Gb, 0, none⟩)] w
      fun e w' => e = .returned (.tuple #[]) ∧ VAt w' S (rs (shf s (gen p) p F p)) ∧ S < w'.heap.size ∧ Below w0.heap.size w0 w' := by
  obtain ⟨hn0, hf0⟩ := VAt.readR hat (k := 0) (by omega)
  obtain ⟨s0, hs0⟩ : ∃ s0, s.getD 0 0 = s0 := ⟨_, rfl⟩
  rw [hs0] at hn0 hF
  have cA := Lib.hid (add_own s0 X w)
  rw [hF] at cA
  have cP := (hb.cell (p := ⟨P, 0, none⟩) (by rw [hS]; exact hP)).trans hcP
  have hat0 := Lib.hid (show VAt w S (rs (shf s (gen p) p F 0)) by rw [shf_zero]; exact hat)
  have hglh := Lib.hid hgl
  have hSh := Lib.hid hS
  have hcPh := Lib.hid hcP
  have hcGh := Lib.hid hcG
  have hAh := Lib.hid hA
  have hsh := Lib.hid hs
  clear hat hF hs0 hS hgl hcP hcG hA hs
  go_enter Try.func60, Try.ntmps60
  go_wp2_with fail
  refine cA.out.mono ?_
  rintro e w1 ⟨rfl, rfl⟩
  clear cA
  go_wp2
  clear hn0 hf0 cP
  go_loopw [12] (fun a wr => ∃ k : Nat, k ≤ p ∧ a = .int .i64 k ∧ Hid (VAt wr S (rs (shf s (gen p) p F k))) ∧ Hid (S < wr.heap.size) ∧ Below w0.heap.size w0 wr) (fun a _ => p - (intOf a).toNat)
  case atStart => exact ⟨0, Nat.zero_le _, rfl, hat0, hglh, hb⟩
  case round =>
    clear hat0 hglh hb
    obtain ⟨k, hk, rfl, hat, hgl, hb⟩ := hrel
    by_cases hlt : k < p
    · obtain ⟨m, hm⟩ : ∃ m, m = k + 1 := ⟨_, rfl⟩
      obtain ⟨pm, hpm⟩ : ∃ pm, p = pm + 1 := ⟨p - 1, by omega⟩
      obtain ⟨q, hq⟩ : ∃ q, q = p - 1 - k := ⟨_, rfl⟩
      have hml : m < s.length := by rw [hsh.out]; omega
      have hkl : k < s.length := by rw [hsh.out]; omega
      have s1 := shf_at (g := gen p) (p := p) (F := F) hm hml
      have s2 := shf_step (g := gen p) (p := p) (F := F) hm hq hkl
      obtain ⟨hn1, hf1⟩ := VAt.readR hat.out (k := m) (by rw [shf_len]; exact hml)
      obtain ⟨hn2, hf2⟩ := VAt.readR hat.out (k := k) (by rw [shf_len]; exact hkl)
      rw [s1] at hn1
      obtain ⟨b2, o2, rfl, hbl2, hc2⟩ := (hAh.out.below hb).read q (by rw [gen_len]; omega)
      have cP := (hb.cell (p := ⟨P, 0, none⟩) (by rw [hSh.out]; exact hP)).trans hcPh.out
      have cG := (hb.cell (p := ⟨Gb, 0, none⟩) (by rw [hSh.out]; exact hG)).trans hcGh.out
      obtain ⟨Z, hZ⟩ : ∃ Z, s.getD m 0 = Z := ⟨_, rfl⟩
      obtain ⟨Y, hY⟩ : ∃ Y, (gen p).getD q 0 = Y := ⟨_, rfl⟩
      rw [hZ] at hn1 s2
      rw [hY] at hc2 s2
      have cM := fun W => (mul_own F Y W).mono fun _ _ ⟨a, b⟩ => And.intro a b.symm
      obtain ⟨T, hT⟩ : ∃ T, tms F Y = T := ⟨_, rfl⟩
      rw [hT] at cM s2
      have cA := fun W => (add_own Z T W).mono fun _ _ ⟨a, b⟩ => And.intro a b.symm
      obtain ⟨U, hU⟩ : ∃ U, Z ^^^ T = U := ⟨_, rfl⟩
      rw [hU] at cA s2
      have cM := Lib.hid cM
      have cA := Lib.hid cA
      have hat2 := Lib.hid (show VAt (wr.setCell ⟨S, k, none⟩ (bv U)).drew S (rs (shf s (gen p) p F (k + 1))) by
        have := (VAt.setR hat.out (k := k) (by rw [shf_len]; exact hkl) U).drew
        rw [s2] at this
        exact this)
      have hgl2 := Lib.hid (show S < (wr.setCell ⟨S, k, none⟩ (bv U)).drew.heap.size by simpa using hgl.out)
      have hb2 := chainN (hb.setCell (p := ⟨S, k, none⟩) (by rw [hSh.out]; exact Nat.le_refl _) (bv U)) 1
      have d1 : (k : Int) < (p : Int) := by omega
      have k0 : (0 : Int) ≤ (k : Int) := by omega
      have k65 : (k : Int) < 65 := by omega
      have m0 : (0 : Int) ≤ (m : Int) := by omega
      have m65 : (m : Int) < 65 := by omega
      have e1 : (k : Int) + 1 = (m : Int) := by omega
      have e2 : (p : Int) - 1 = (pm : Int) := by omega
      have e3 : (pm : Int) - (k : Int) = (q : Int) := by omega
      have q0 : (0 : Int) ≤ (q : Int) := by omega
      have q1 : (q : Int) < (p : Int) + 1 := by omega
      have w1' : IntKind.i64.wrap (m : Int) = (m : Int) := by rw [IntKind.wrap_i64]; omega
      have w2' : IntKind.i64.wrap (q : Int) = (q : Int) := by rw [IntKind.wrap_i64]; omega
      have w3' : IntKind.i64.wrap (pm : Int) = (pm : Int) := by rw [IntKind.wrap_i64]; omega
      clear hat hgl s1 s2 hkl hml hm hq hZ hY hT hU hpm
      go_wp2_with fail
      refine wp_region_still_tail 16 (by kernel_rfl) (by kernel_rfl) ?_
      simp only [List.take_succ_cons, List.take_zero, List.drop_succ_cons, List.drop_zero]
      repeat still_step
      still_call (cM.out _)
      still_call (cA.out _)
      repeat still_step
      refine wpStill_nil ?_
      change wpList _ _ _ _ _ wr.drew
      go_wp2
      go_roundw
      case rel => exact ⟨k + 1, by omega, by go_num, hat2, hgl2, hb2⟩
      case measure => simp [intOf]; omega
    · have hke : k = p := by omega
      have d1 : ¬ (k : Int) < (p : Int) := by omega
      rw [hke] at hat
      clear hke
      go_wp2
      go_end0
      exact ⟨rfl, hat.out, hgl.out, hb⟩
end Go.Proofs.Ytkobcffkgaodbaa.G7
