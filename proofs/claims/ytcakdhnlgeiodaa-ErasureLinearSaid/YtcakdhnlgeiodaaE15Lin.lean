/- Two stripes and their exclusive or: plain facts for the law ErasureLinear; rows whose first blocks are cut. No function is named here. -/
import Derived.Test.YtcakdhnlgeiodaaE15Stri
import Derived.Test.YtcakdhnlgeiodaaG7RefXor
namespace Go.Proofs.Ytcakdhnlgeiodaa.E15
set_option maxRecDepth 100000
open Go.RowKit Mem S14
open Go.Proofs.Ytcakdhnlgeiodaa.G5 Go.Proofs.Ytcakdhnlgeiodaa.G7
open Go.Proofs.Ytcakdhnlgeiodaa.G6 (IsSl rs rs_len rs_get rs_set rs_one rs_snoc make_zeros zeros_at own_zeros info_byte u8s conv_sl)
set_option linter.unusedVariables false
set_option linter.unusedSimpArgs false

/-- The first k blocks are cut to K bytes. -/
def cutL (E : List (List R)) (K k : Nat) : List (List R) := (List.range E.length).map fun i => if i < k then (E.getD i []).take K else E.getD i []
theorem cutL_len (E : List (List R)) (K k : Nat) : (cutL E K k).length = E.length := by simp [cutL]
theorem cutL_zero (E : List (List R)) (K : Nat) : cutL E K 0 = E := by
  refine List.ext_getElem (by simp [cutL]) fun i h1 h2 => ?_
  simp [cutL, List.getD_eq_getElem?_getD, h2]
theorem cutL_get (E : List (List R)) (K : Nat) {k : Nat} (hk : k < E.length) : (cutL E K k)[k]'(by rw [cutL_len]; exact hk) = E.getD k [] := by simp [cutL]
theorem cutL_done (E : List (List R)) (K : Nat) {k : Nat} (hk : k < E.length) : (cutL E K (k + 1))[k]'(by rw [cutL_len]; exact hk) = (E.getD k []).take K := by simp [cutL]
theorem cutL_set (E : List (List R)) (K : Nat) {k : Nat} (hk : k < E.length) : (cutL E K k).set k ((E.getD k []).take K) = cutL E K (k + 1) := by
  refine List.ext_getElem (by simp [cutL]) fun i h1 h2 => ?_
  rw [List.getElem_set]
  by_cases e : k = i
  · subst e
    simp [cutL]
  · rw [if_neg e]
    simp only [cutL, List.getElem_map, List.getElem_range]
    by_cases h : i < k
    · rw [if_pos h, if_pos (by omega)]
    · rw [if_neg h, if_neg (by omega)]
/-- The first N blocks, cut. -/
def cutN (E : List (List R)) (K N : Nat) : List (List R) := (List.range N).map fun i => (E.getD i []).take K
theorem cutN_len (E : List (List R)) (K N : Nat) : (cutN E K N).length = N := by simp [cutN]
theorem cutL_take (E : List (List R)) (K N : Nat) (h : N ≤ E.length) : (cutL E K N).take N = cutN E K N := by
  refine List.ext_getElem (by simp [cutL, cutN, h]) fun i h1 h2 => ?_
  rw [cutN_len] at h2
  simp [cutL, cutN, h2]
theorem cutN_all {E : List (List R)} {K N m : Nat} (hN : N ≤ E.length) (hE : ∀ b ∈ E, b.length = m) (hK : K ≤ m) : ∀ b ∈ cutN E K N, b.length = K := fun b hb => by
  obtain ⟨i, hi, rfl⟩ := List.mem_map.1 hb
  have := List.mem_range.1 hi
  have e : E.getD i [] = E[i] := by simp [List.getD_eq_getElem?_getD, show i < E.length by omega]
  rw [List.length_take, e, hE _ (List.getElem_mem _)]
  omega
/-- The exclusive or, block by block. -/
def xorN (D F : List (List R)) (N : Nat) : List (List R) := (List.range N).map fun i => xr (D.getD i []) (F.getD i [])
theorem xorN_len (D F : List (List R)) (N : Nat) : (xorN D F N).length = N := by simp [xorN]
theorem getD_len {D : List (List R)} {N K j : Nat} (hD : D.length = N) (hl : ∀ b ∈ D, b.length = K) (hj : j < N) : (D.getD j []).length = K := by
  have e : D.getD j [] = D[j] := by simp [List.getD_eq_getElem?_getD, show j < D.length by omega]
  rw [e]
  exact hl _ (List.getElem_mem _)
theorem xorN_all {D F : List (List R)} {N K : Nat} (hD : D.length = N) (hF : F.length = N) (h1 : ∀ b ∈ D, b.length = K) (h2 : ∀ b ∈ F, b.length = K) : ∀ b ∈ xorN D F N, b.length = K := fun b hb => by
  obtain ⟨i, hi, rfl⟩ := List.mem_map.1 hb
  have := List.mem_range.1 hi
  rw [xr_len2, getD_len hD h1 this, getD_len hF h2 this]
  omega
/-- Linearity: the blocks of the exclusive or are the exclusive or of the blocks. -/
theorem stD_xor {D F : List (List R)} {N K : Nat} (hD : D.length = N) (hF : F.length = N) (h1 : ∀ b ∈ D, b.length = K) (h2 : ∀ b ∈ F, b.length = K) (x : R) : stD (xorN D F N) K x = xr (stD D K x) (stD F K x) := by
  have l0 := (stD_stripe (xorN D F N) K).len x
  have l1 := (stD_stripe D K).len x
  have l2 := (stD_stripe F K).len x
  refine list_eq (by rw [l0, xr_len2, l1, l2]; omega) fun i hi => ?_
  rw [l0] at hi
  rw [xr_get _ _ i (by omega) (by omega)]
  unfold stD
  rw [xorN_len, hD, hF]
  refine blk_xor (fun j q => ?_) x hi
  by_cases hj : j < N
  · have e : (xorN D F N).getD j [] = xr (D.getD j []) (F.getD j []) := by simp [xorN, List.getD_eq_getElem?_getD, hj]
    rw [e]
    have e1 := getD_len hD h1 hj
    have e2 := getD_len hF h2 hj
    by_cases hq : q < K
    · exact xr_get _ _ q (by omega) (by omega)
    · rw [G6.getD_far _ _ (by rw [xr_len2]; omega), G6.getD_far _ _ (by omega), G6.getD_far _ _ (by omega), G6.xz]
  · have e0 : (xorN D F N).getD j [] = [] := by simp [xorN, List.getD_eq_getElem?_getD, show ¬ j < N from hj]
    have e1 : D.getD j [] = [] := by simp [List.getD_eq_getElem?_getD, List.getElem?_eq_none (show D.length ≤ j by omega)]
    have e2 : F.getD j [] = [] := by simp [List.getD_eq_getElem?_getD, List.getElem?_eq_none (show F.length ≤ j by omega)]
    rw [e0, e1, e2]
    show (0 : R) = 0 ^^^ 0
    decide
theorem enc_good {D : List (List R)} {N K M : Nat} (hD : D.length = N) (h1 : ∀ b ∈ D, b.length = K) (hN : 1 ≤ N) (hN8 : N ≤ 8) (hM : M ≤ 7) : ¬ EncBad D (M : Int) ∧ (D.headD []).length = K := by
  have hh : (D.headD []).length = K := by rw [headD_get D (by omega)]; exact h1 _ (List.getElem_mem _)
  refine ⟨fun hb => ?_, hh⟩
  rcases hb with e | e | e | e
  · rw [e] at hD; simp at hD; omega
  · omega
  · omega
  · exact e (fun r hr => by rw [h1 r hr, hh])
end Go.Proofs.Ytcakdhnlgeiodaa.E15
