/- Programs without jumps: the text with spaces, its answers. No program is named here. -/
import Derived.Test.YtfdlgdgjbfoogaaM17PSpc
import Derived.Test.YtfdlgdgjbfoogaaM17PEcho
namespace Go.Proofs.Ytfdlgdgjbfoogaa.M17
set_option linter.unusedVariables false
set_option linter.unusedSimpArgs false

/-- The text's bytes. -/
def spB (K : List UInt8) : List UInt8 → List UInt8
  | [] => []
  | [x] => [x]
  | x :: y :: l => if Dgt x.toNat ∧ Dgt y.toNat then x :: spB K (y :: l) else x :: (K ++ spB K (y :: l))
theorem spB_map (K : List UInt8) : ∀ l : List UInt8, (spB K l).map UInt8.toNat = sp (K.map UInt8.toNat) (l.map UInt8.toNat)
  | [] => rfl
  | [x] => rfl
  | x :: y :: l => by
    have ih := spB_map K (y :: l)
    rw [spB, List.map_cons, List.map_cons, sp]
    split
    · rw [List.map_cons, ih]; rfl
    · rw [List.map_cons, List.map_append, ih]; rfl
theorem spB_len (K : List UInt8) : ∀ l : List UInt8, (spB K l).length ≤ l.length * (K.length + 1)
  | [] => Nat.zero_le _
  | [x] => by simp [spB]
  | x :: y :: l => by
    have ih := spB_len K (y :: l)
    rw [spB]
    rw [List.length_cons (as := y :: l), Nat.succ_mul]
    split
    · rw [List.length_cons]; omega
    · rw [List.length_cons, List.length_append]; omega
theorem spB_mem (K : List UInt8) : ∀ (l : List UInt8), ∀ c ∈ spB K l, c ∈ K ∨ c ∈ l
  | [], c, h => by cases h
  | [x], c, h => .inr h
  | x :: y :: l, c, h => by
    have ih := spB_mem K (y :: l) c
    rw [spB] at h
    split at h
    · rcases List.mem_cons.1 h with rfl | h
      · exact .inr (by simp)
      · rcases ih h with h | h
        · exact .inl h
        · exact .inr (List.mem_cons_of_mem _ h)
    · rcases List.mem_cons.1 h with rfl | h
      · exact .inr (by simp)
      · rcases List.mem_append.1 h with h | h
        · exact .inl h
        · rcases ih h with h | h
          · exact .inl h
          · exact .inr (List.mem_cons_of_mem _ h)
theorem spB_stop (K : List UInt8) (l : List UInt8) (k : Nat) (h : k + 1 = l.length) : spB K (l.drop k) = [l[k]] ++ spB K (l.drop (k + 1)) := by
  rw [List.drop_eq_getElem_cons (by omega), show l.drop (k + 1) = [] from List.drop_eq_nil_of_le (by omega)]
  rfl
theorem spB_num (K : List UInt8) (l : List UInt8) (k : Nat) (h : k + 1 < l.length) (hd : Dgt (l[k]).toNat ∧ Dgt (l[k + 1]).toNat) : spB K (l.drop k) = [l[k]] ++ spB K (l.drop (k + 1)) := by
  rw [List.drop_eq_getElem_cons (show k < l.length by omega), List.drop_eq_getElem_cons h, spB, if_pos hd]
  rfl
theorem spB_gap (K : List UInt8) (l : List UInt8) (k : Nat) (h : k + 1 < l.length) (hd : ¬ (Dgt (l[k]).toNat ∧ Dgt (l[k + 1]).toNat)) : spB K (l.drop k) = [l[k]] ++ K ++ spB K (l.drop (k + 1)) := by
  rw [List.drop_eq_getElem_cons (show k < l.length by omega), List.drop_eq_getElem_cons h, spB, if_neg hd, List.append_assoc]
  rfl
theorem placed_end (S : ByteArray) : placed [((0 : Int), S)] (0 + S.size) = 0 := by
  unfold placed
  simp only [List.foldl_cons, List.foldl_nil]
  unfold place
  rw [if_neg (by dsimp only; omega)]
theorem ans_sl (S : ByteArray) (hS : S.size ≤ 900) (h : ∀ c ∈ S.data.toList, Pl c.toNat) (inp : List Nat) : ans [(0, S)] 0 inp 1000 = sl (S.data.toList.map UInt8.toNat) (init [(0, S)] 0 inp) := by
  have hl : (S.data.toList.map UInt8.toNat).length = S.size := by simp
  have ha : ans [(0, S)] 0 inp 1000 = run 1000 (init [(0, S)] 0 inp) := by
    unfold ans
    rw [if_neg (by decide), if_neg (by
      intro h
      apply h
      intro t ht
      rw [List.mem_singleton.1 ht]
      exact ⟨Int.le_refl _, by show (0 : Int) + (S.size : Int) ≤ 262144; omega⟩), if_neg (by decide), if_neg (by decide)]
    rfl
  rw [ha]
  refine run_sl _ 1000 _ (fun c hc => ?_) (has_placed 0 S) ?_ ?_ ?_
  · obtain ⟨x, hx, rfl⟩ := List.mem_map.1 hc
    exact h x hx
  · rw [hl]; exact placed_end S
  · rw [hl]; show 0 + S.size < 262144; omega
  · rw [hl]; omega
theorem ans_spc (S T : ByteArray) (K : List UInt8) (hK : ∀ c ∈ K, c = 32 ∨ c = 10) (hK0 : K ≠ []) (hK2 : K.length ≤ 2) (hT : T.data.toList = spB K S.data.toList) (hS : S.size ≤ 200) (h : ∀ c ∈ S.data.toList, Pl c.toNat) (inp : List Nat) :
    (ans [(0, S)] 0 inp 1000).out = (ans [(0, T)] 0 inp 1000).out ∧ (ans [(0, S)] 0 inp 1000).err = (ans [(0, T)] 0 inp 1000).err ∧ (ans [(0, S)] 0 inp 1000).steps ≤ (ans [(0, T)] 0 inp 1000).steps := by
  have hTs : T.size ≤ 900 := by
    have h1 := spB_len K S.data.toList
    rw [← hT] at h1
    have h2 : T.data.toList.length = T.size := by simp
    have h3 : S.data.toList.length = S.size := by simp
    rw [h2, h3] at h1
    have h4 : S.size * (K.length + 1) ≤ 200 * 3 := Nat.mul_le_mul hS (by omega)
    omega
  rw [ans_sl S (by omega) h inp, ans_sl T hTs (fun c hc => by
    rw [hT] at hc
    rcases spB_mem K _ c hc with h1 | h1
    · rcases hK c h1 with rfl | rfl <;> (unfold Pl; decide)
    · exact h c h1) inp, hT, spB_map]
  refine sp_sim _ (fun c hc => ?_) (by simpa using hK0) _ _ _ (fun c hc => ?_) ⟨rfl, rfl, rfl, rfl⟩ (fun _ _ _ => rfl)
  · obtain ⟨x, hx, rfl⟩ := List.mem_map.1 hc
    rcases hK x hx with rfl | rfl
    · exact .inl rfl
    · exact .inr rfl
  · obtain ⟨x, hx, rfl⟩ := List.mem_map.1 hc
    exact h x hx
end Go.Proofs.Ytfdlgdgjbfoogaa.M17
