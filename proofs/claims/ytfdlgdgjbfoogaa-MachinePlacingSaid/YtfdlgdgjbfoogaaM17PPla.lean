/- Programs laid in pieces: the same memory. No program is named here. -/
import Derived.Test.YtfdlgdgjbfoogaaM17Lin
namespace Go.Proofs.Ytfdlgdgjbfoogaa.M17
set_option linter.unusedVariables false
set_option linter.unusedSimpArgs false

theorem ans_same {ts ts' : List Txt} (h : ∀ t ∈ ts, fits t) (h' : ∀ t ∈ ts', fits t) (e : placed ts = placed ts') (start : Int) (inp : List Nat) (steps : Int) : ans ts start inp steps = ans ts' start inp steps := by
  unfold ans
  split
  · rfl
  all_goals first | rfl | skip
  unfold init
  rw [e]
theorem ext_list (S : ByteArray) (a b : Nat) : (S.extract a b).data.toList = (S.data.toList.take b).drop a := by
  rw [ByteArray.data_extract, Array.toList_extract, List.extract_eq_take_drop, List.drop_take]
theorem codeAt_ext (S : ByteArray) (a b i : Nat) (h : a + i < b) (hb : b ≤ S.size) : codeAt (S.extract a b) i = codeAt S (a + i) := by
  unfold codeAt
  rw [ext_list, List.getD_eq_getElem?_getD, List.getD_eq_getElem?_getD, List.getElem?_drop, List.getElem?_take_of_lt h]
/-- A text cut in two, the tail laid first. -/
theorem placed_cut (b n : Nat) (S : ByteArray) (hn : n ≤ S.size) : placed [((b : Int) + (n : Int), S.extract n S.size), ((b : Int), S.extract 0 n)] = placed [((b : Int), S)] := by
  unfold placed
  simp only [List.foldl_cons, List.foldl_nil]
  funext i
  unfold place
  dsimp only
  rw [ByteArray.size_extract, ByteArray.size_extract, Int.toNat_natCast, show ((b : Int) + (n : Int)).toNat = b + n by omega, Nat.min_self, Nat.min_eq_left hn, Nat.sub_zero]
  by_cases h1 : b ≤ i ∧ i < b + n
  · rw [if_pos h1, if_pos (by omega), codeAt_ext S 0 n (i - b) (by omega) hn, Nat.zero_add]
  · rw [if_neg h1]
    by_cases h2 : b + n ≤ i ∧ i < b + n + (S.size - n)
    · rw [if_pos h2, if_pos (by omega), codeAt_ext S n S.size _ (by omega) (Nat.le_refl _), show n + (i - (b + n)) = i - b by omega]
    · rw [if_neg h2, if_neg (by omega)]
/-- A later text stands over an earlier one. -/
theorem placed_over (b : Nat) (D S : ByteArray) (h : D.size = S.size) : placed [((b : Int), D), ((b : Int), S)] = placed [((b : Int), S)] := by
  unfold placed
  simp only [List.foldl_cons, List.foldl_nil]
  funext i
  unfold place
  dsimp only
  rw [h]
  split <;> rfl
theorem ans_cut (b n : Nat) (S : ByteArray) (hn : n ≤ S.size) (hS : S.size ≤ 300) (hb : b < 1000) (inp : List Nat) (k : Int) : ans [((b : Int) + (n : Int), S.extract n S.size), ((b : Int), S.extract 0 n)] (b : Int) inp k = ans [((b : Int), S)] (b : Int) inp k := by
  refine ans_same (fun t ht => ?_) (fun t ht => ?_) (placed_cut b n S hn) _ _ _
  · rcases List.mem_cons.1 ht with rfl | ht
    · exact ⟨by dsimp only; omega, by dsimp only; rw [ByteArray.size_extract]; omega⟩
    · rw [List.mem_singleton.1 ht]
      exact ⟨by dsimp only; omega, by dsimp only; rw [ByteArray.size_extract]; omega⟩
  · rw [List.mem_singleton.1 ht]
    exact ⟨by dsimp only; omega, by dsimp only; omega⟩
theorem ans_over (b : Nat) (D S : ByteArray) (h : D.size = S.size) (hS : S.size ≤ 300) (hb : b < 1000) (inp : List Nat) (k : Int) : ans [((b : Int), D), ((b : Int), S)] (b : Int) inp k = ans [((b : Int), S)] (b : Int) inp k := by
  refine ans_same (fun t ht => ?_) (fun t ht => ?_) (placed_over b D S h) _ _ _
  · rcases List.mem_cons.1 ht with rfl | ht
    · exact ⟨by dsimp only; omega, by dsimp only; omega⟩
    · rw [List.mem_singleton.1 ht]
      exact ⟨by dsimp only; omega, by dsimp only; omega⟩
  · rw [List.mem_singleton.1 ht]
    exact ⟨by dsimp only; omega, by dsimp only; omega⟩
/-- Go's way to a remainder that is not below zero. -/
theorem rem_up (z m : Int) (hm : 0 < m) (hm2 : m ≤ 1000000) (hz : -9223372036854775808 ≤ z) (hz2 : z ≤ 9223372036854775807) : -m < z.tmod m ∧ z.tmod m < m ∧ ∃ n : Nat, (z.tmod m + m).tmod m = (n : Int) ∧ (n : Int) < m := by
  have h1 : -m < z.tmod m := by
    have := Int.lt_tmod_of_pos z hm
    exact this
  have h2 : z.tmod m < m := Int.tmod_lt_of_pos z hm
  have h3 : (z.tmod m + m).tmod m = (z.tmod m + m) % m := Int.tmod_eq_emod_of_nonneg (by omega)
  have h4 := Int.emod_nonneg (z.tmod m + m) (show m ≠ 0 by omega)
  have h5 := Int.emod_lt_of_pos (z.tmod m + m) hm
  exact ⟨h1, h2, ((z.tmod m + m) % m).toNat, by rw [h3, Int.toNat_of_nonneg h4], by rw [Int.toNat_of_nonneg h4]; exact h5⟩
end Go.Proofs.Ytfdlgdgjbfoogaa.M17
