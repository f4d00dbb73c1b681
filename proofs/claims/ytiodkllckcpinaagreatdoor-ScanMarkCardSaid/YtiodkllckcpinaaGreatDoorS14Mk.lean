/- Plain facts for layer 14: a mark with some distinct cells inverted. No program is named here. -/
import Derived.Test.YtiodkllckcpinaaGreatDoorM14AU
set_option linter.unusedVariables false
set_option linter.unusedSimpArgs false
set_option maxRecDepth 100000
namespace Go.Proofs.YtiodkllckcpinaaGreatDoor
namespace S14
open Go.RowKit Mem F13

theorem mk_other : ∀ i : Fin 16, (M12.mk.getD i.1 0 ^^^ 1 == M12.mk.getD i.1 0) = false := by decide
theorem mm_get {m : List UInt8} (hm : m.length = 16) {j : Nat} (hj : j < 16) : M12.mm m 0 j = (m.getD j 0 != M12.mk.getD j 0) := by
 have h := M12.mm_in (l := m) (a := 0) (k := j) (c := j) hj (by omega) (by omega)
 have e1 : m.getD j 0 = m[j]'(by omega) := by simp [List.getD_eq_getElem?_getD, show j < m.length by omega]
 have e2 : M12.mk.getD j 0 = M12.mk[j]'(by rw [M12.mk_len]; exact hj) := by simp [List.getD_eq_getElem?_getD, show j < M12.mk.length by rw [M12.mk_len]; exact hj]
 rw [e1, e2]
 exact h
theorem dsTo_set {m : List UInt8} (hm : m.length = 16) {i : Nat} (hi : i < 16) {v : UInt8} (h1 : m.getD i 0 = M12.mk.getD i 0) (h2 : (v == M12.mk.getD i 0) = false) : ∀ k, k ≤ 16 → M12.dsTo (m.set i v) 0 k = M12.dsTo m 0 k + (if i < k then 1 else 0)
 | 0, _ => rfl
 | k + 1, hk => by
  have ih := dsTo_set hm hi h1 h2 k (by omega)
  have hs : (m.set i v).length = 16 := by rw [List.length_set]; exact hm
  have e1 := mm_get hs (j := k) (by omega)
  have e2 := mm_get hm (j := k) (by omega)
  by_cases e : k = i
  ·subst e
   have g : (m.set k v).getD k 0 = v := by simp [List.getD_eq_getElem?_getD, hm, hi]
   rw [g] at e1
   rw [h1] at e2
   have f1 : M12.mm (m.set k v) 0 k = true := by rw [e1]; simpa using h2
   have f2 : M12.mm m 0 k = false := by rw [e2]; simp
   rw [M12.dsTo_yes f1, M12.dsTo_no f2, ih, if_neg (by omega), if_pos (by omega)]
  ·have g : (m.set i v).getD k 0 = m.getD k 0 := by simp [List.getD_eq_getElem?_getD, List.getElem?_set, show ¬ i = k by omega]
   rw [g] at e1
   rw [← e2] at e1
   cases hb : M12.mm m 0 k with
   | true =>
    rw [M12.dsTo_yes (e1.trans hb), M12.dsTo_yes hb, ih]
    by_cases hik : i < k
    ·rw [if_pos hik, if_pos (by omega)] <;> omega
    ·rw [if_neg hik, if_neg (by omega)]
   | false =>
    rw [M12.dsTo_no (e1.trans hb), M12.dsTo_no hb, ih]
    by_cases hik : i < k
    ·rw [if_pos hik, if_pos (by omega)]
    ·rw [if_neg hik, if_neg (by omega)]
structure Mkd (m : List UInt8) (us : List Int) : Prop where
 len : m.length = 16
 out : ∀ i : Nat, i < 16 → (i : Int) ∉ us → m.getD i 0 = M12.mk.getD i 0
 cnt : M12.ds m 0 = us.length
theorem Mkd.start : Mkd M12.mk [] := ⟨M12.mk_len, fun _ _ _ => rfl, ds_mark⟩
theorem Mkd.step {m : List UInt8} {us : List Int} (h : Mkd m us) {i : Nat} (hi : i < 16) (hu : (i : Int) ∉ us) : Mkd (flip m i) (us ++ [(i : Int)]) := by
 have ho := h.out i hi hu
 refine ⟨by rw [flip_len]; exact h.len, fun j hj hju => ?_, ?_⟩
 ·have hji : ¬ i = j := fun e => hju (by rw [e]; simp)
  unfold flip
  have g : (m.set i (m.getD i 0 ^^^ 1)).getD j 0 = m.getD j 0 := by simp [List.getD_eq_getElem?_getD, List.getElem?_set, hji]
  rw [g]
  exact h.out j hj fun hm => hju (List.mem_append.2 (.inl hm))
 ·unfold flip M12.ds
  have h2 := mk_other ⟨i, hi⟩
  rw [dsTo_set h.len hi ho (by rw [ho]; exact h2) 16 (Nat.le_refl _), if_pos hi, List.length_append]
  have := h.cnt
  unfold M12.ds at this
  simp
  omega
end S14
end Go.Proofs.YtiodkllckcpinaaGreatDoor
