/- The walk of the law RsdecodeCodeword, under the package's contracts. -/
import Derived.Test.YtkobcffkgaodbaaG8Law1
namespace Go.Proofs.Ytkobcffkgaodbaa.G8
open Go.Proofs.Ytkobcffkgaodbaa.G5
open Go.Proofs.Ytkobcffkgaodbaa.G7
open Go.Proofs.Ytkobcffkgaodbaa.G6 (rs rs_len rs_get IsSl sl_of_row)
open Go.RowKit Mem
set_option linter.unusedVariables false
set_option linter.unusedSimpArgs false

theorem ints_fit {l : List Int} {N : Nat} (h : ∀ z ∈ l, 0 ≤ z ∧ z < (N : Int)) (hN : N ≤ 1000000) : ∀ z ∈ l, -9223372036854775808 ≤ z ∧ z ≤ 9223372036854775807 := fun z hz => by
  have := h z hz
  omega
theorem not_bad {N : Nat} {P : Nat} {l : List Int} (h1 : 1 ≤ P) (h2 : P ≤ 64) (h3 : P ≤ N) (h4 : N ≤ 255) (h : ∀ z ∈ l, 0 ≤ z ∧ z < (N : Int)) : ¬ Bad N (P : Int) l := by
  rintro (h | h | h | h | ⟨z, hz, hb⟩)
  · omega
  · omega
  · omega
  · omega
  · have := h z hz
    omega
set_option maxRecDepth 100000 in
set_option maxHeartbeats 2000000 in
theorem walk_codeword (D : Dev) (s : ByteArray) (i1 : Int) (a2 : Option Addr) (n2 c2 : Nat) (z2 : List Int) (w : World) (hs : s.size ≤ 140737488351232) (h1 : (Lit.int .u8 i1).wf = true) (hz : IsRow .u8 w a2 n2 c2 z2) :
    Calls Try.prog 6 #[.string s, .int .u8 i1, .slice a2 n2 c2] w fun e w' => e = .returned (.bool true) ∧ Below w.heap.size w w' := by
  obtain ⟨q, hq, rfl⟩ := u8_nat h1
  obtain ⟨er, hel, her⟩ := sl_of_row hz
  obtain ⟨p, hp⟩ : ∃ p, 1 + q % 16 = p := ⟨_, rfl⟩
  have e1 : 1 + (q : Int) % 16 = (p : Int) := by omega
  have hp1 : 1 ≤ p := by omega
  have hp16 : p ≤ 16 := by omega
  have cA := Lib.hid (alive_any D w)
  have her := Lib.hid her
  have hel := Lib.hid hel
  clear h1 hz hp
  by_cases hd : s.size ≤ 40
  · have d1 : decide ((40 : Int) < (s.size : Int)) = false := decide_eq_false (by omega)
    have d1' : decide (40 < s.size) = false := decide_eq_false (by omega)
    by_cases hn : n2 ≤ p
    · have d2 : decide ((p : Int) < (n2 : Int)) = false := decide_eq_false (by omega)
      have d2' : decide (p < n2) = false := decide_eq_false (by omega)
      have cE := Lib.hid (fun W => enc_own s p W hp1 (by omega) (by omega))
      obtain ⟨j0, hj, hy0, hy1, hy2⟩ := info_parts info_int
      go_enter Try.func6, Try.ntmps6
      go_wp2_with fail
      refine cA.out.mono ?_
      rintro e w1 ⟨rfl, hB⟩
      have her := Lib.hid (her.out.below hB)
      go_wp2_with fail
      refine (cE.out _).mono ?_
      rintro e w2 ⟨t, ht, rfl, hb⟩
      have her := Lib.hid (her.out.below hb)
      replace hB := chain hB hb
      obtain ⟨C, hC⟩ : ∃ C, str (el s ++ t) = C := ⟨_, rfl⟩
      have eC : el s ++ t = el C := by rw [← hC, el_str]
      obtain ⟨N, hN⟩ : ∃ N, C.size = N := ⟨_, rfl⟩
      have hNs : N = s.size + p := by rw [← hN, ← el_len, ← eC, List.length_append, el_len, ht.1]
      have hcw := ht.2
      rw [eC] at hcw
      have hcw := Lib.hid hcw
      have hNh := Lib.hid hN
      have hN1 : 1 ≤ N := by omega
      have hN2 : N ≤ 56 := by omega
      have hpN := Lib.hid (show p ≤ N by omega)
      rw [hC]
      clear hb ht hC eC hN hNs cA cE
      obtain ⟨W2, rfl⟩ : ∃ W2, W2 = w2 := ⟨_, rfl⟩
      go_wp2
      go_loopw [10, 11] (fun v x wr => ∃ (k : Nat) (l : List Int), k ≤ n2 ∧ x = .int .i64 k ∧ wr.ownsRow W2.heap.size 3 1 v k (is l) ∧ Hid ((∀ z ∈ l, 0 ≤ z ∧ z < (N : Int)) ∧ l.length = k) ∧ Below W2.heap.size W2 wr) (fun _ x _ => n2 - (intOf x).toNat)
      case atStart => exact ⟨0, [], Nat.zero_le _, rfl, World.ownsRow_nil _ _ _ _, Lib.hid ⟨fun z h => by simp at h, rfl⟩, Below.refl _ _⟩
      case round =>
        obtain ⟨k, l, hk, rfl, hown, hl, hb⟩ := hrel
        by_cases hlt : k < n2
        · obtain ⟨b, o, rfl, hbl, hc⟩ := (her.out.below hb).read k (by rw [hel.out]; exact hlt)
          obtain ⟨X, hX⟩ : ∃ X, er.getD k 0 = X := ⟨_, rfl⟩
          rw [hX] at hc
          have hXl := X.isLt
          obtain ⟨j, hj'⟩ : ∃ j, X.toNat % N = j := ⟨_, rfl⟩
          have hjN : j < N := by rw [← hj']; exact Nat.mod_lt _ (by omega)
          have e3 : (X.toNat : Int) % (N : Int) = (j : Int) := by omega
          have hl2 : Hid ((∀ z ∈ l ++ [(j : Int)], 0 ≤ z ∧ z < (N : Int)) ∧ (l ++ [(j : Int)]).length = k + 1) := Lib.hid ⟨fun z h => by
            rcases List.mem_append.1 h with h | h
            · exact hl.out.1 z h
            · have := List.mem_singleton.1 h
              omega, by rw [List.length_append, hl.out.2]; rfl⟩
          have k0 : (0 : Int) ≤ (k : Int) := by omega
          have k1 : (k : Int) < (n2 : Int) := by omega
          have d3 : decide (k < n2) = true := decide_eq_true hlt
          have nz2 : ¬ (N : Int) = 0 := by omega
          have nz3 : ¬ N = 0 := by omega
          have hCs := hNh.out
          clear hX hj' hl
          go_wp2_with (at_builtin; refine wpList_append_own _ rfl _ _ 22 rfl W2.heap.size 3 j0 (.int .i64 0) 1 8 Try.underlying22 hj hy0 hy1 hy2 rfl (by decide) _ _ _ rfl (hown.alloc _) ⟨wr.heap.size, 0, none⟩ 1 1 [.int .i64 (j : Int)] rfl rfl (one_new _ _ _) (one_cell _ _) ?d3 ?d4 ?d5 ?_)
          case d3 => unfold maxLen; omega
          case d4 => omega
          case d5 => have := hb.size; simp; omega
          intro v' w4 hown2 hgr _
          rw [show [Value.int .i64 (j : Int)] = is [(j : Int)] from rfl, ← is_append] at hown2
          have hb2 := (hb.alloc hb.size _).grown hgr (by have := hb.size; simp; omega) (fun j hj => (hown.lt j hj).1)
          clear hown hgr hb
          go_wp2
          go_roundw
          case rel => exact ⟨k + 1, _, by omega, by go_num, hown2, hl2, hb2⟩
          case measure => simp [intOf]; omega
        · obtain ⟨A', c', rfl, _, _⟩ := own_slice hown
          obtain ⟨hsl, hlen⟩ := IsInts.of_own hown (ints_fit hl.out.1 (by omega))
          have cD := Lib.hid (D.decode (s := C) (p := (p : Int)) hsl hlen (by rw [hNh.out]; omega) (by omega) (by omega))
          have d3 : decide (k < n2) = false := decide_eq_false hlt
          have k1 : ¬ (k : Int) < (n2 : Int) := by omega
          have hfin : ∀ S n k', DecQ (el C) (p : Int) l S n k' → S = C ∧ n = 0 ∧ k' = 0 := fun S n k' h => by
            have hlC : (el C).length = N := by rw [el_len, hNh.out]
            obtain ⟨g1, g2, g3⟩ := (h.2 (by rw [hlC]; exact not_bad hp1 (by omega) hpN.out (by omega) hl.out.1)).1 (el C) (by rw [Int.toNat_natCast]; exact Within.self hcw.out (by rw [hl.out.2]; omega))
            rw [dif_self] at g2
            exact ⟨by rw [g1, str_el], g2, g3⟩
          have hfin := Lib.hid hfin
          clear hown hsl hlen hl
          go_wp2_with fail
          refine cD.out.mono ?_
          rintro e w5 ⟨S, n, k', hq, rfl, hb2⟩
          obtain ⟨rfl, rfl, rfl⟩ := hfin.out S n k' hq
          clear hq cD
          go_wp2
          go_ret
          exact ⟨rfl, chain (chain hB hb) hb2⟩
    · have d2 : decide ((p : Int) < (n2 : Int)) = true := decide_eq_true (by omega)
      have d2' : decide (p < n2) = true := decide_eq_true (by omega)
      go_enter Try.func6, Try.ntmps6
      go_wp2_with fail
      refine cA.out.mono ?_
      rintro e w1 ⟨rfl, hB⟩
      go_wp2
      go_ret
      exact ⟨rfl, hB⟩
  · have d1 : decide ((40 : Int) < (s.size : Int)) = true := decide_eq_true (by omega)
    have d1' : decide (40 < s.size) = true := decide_eq_true (by omega)
    go_enter Try.func6, Try.ntmps6
    go_wp2_with fail
    refine cA.out.mono ?_
    rintro e w1 ⟨rfl, hB⟩
    go_wp2
    go_ret
    exact ⟨rfl, hB⟩
end Go.Proofs.Ytkobcffkgaodbaa.G8
