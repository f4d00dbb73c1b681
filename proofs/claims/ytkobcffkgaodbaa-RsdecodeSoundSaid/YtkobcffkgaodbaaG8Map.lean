/- Sets of integers as maps to true that the call makes. -/
import Derived.Test.YtkobcffkgaodbaaG8Ints
import Derived.Test.YtkobcffkgaodbaaG8Math
import Derived.Maps.Own
import Derived.Maps.OwnSet
import Derived.Maps.Views
namespace Go.Proofs.Ytkobcffkgaodbaa.G8
open Go.RowKit Mem
open Go.Maps
set_option linter.unusedVariables false
set_option linter.unusedSimpArgs false

def keyI (z : Int) : Lit := .int .i64 z
def setI (zs : List Int) : DataW Unit := setOf (.lit (.bool true)) (zs.map keyI)
theorem keyI_lit (z : Int) : WideAt.IsKeyLit (keyI z) := trivial
theorem keysI (zs : List Int) : ∀ x ∈ zs.map keyI, WideAt.IsKeyLit x := fun x hx => by
  obtain ⟨z, _, rfl⟩ := List.mem_map.1 hx
  exact keyI_lit z
theorem setI_snoc (zs : List Int) (z : Int) : setI (zs ++ [z]) = (setI zs).put (keyI z) (.lit (.bool true)) := by
  unfold setI
  rw [List.map_append]
  exact setOf_snoc _ _ _
theorem setI_tidy (zs : List Int) : Tidy (setI zs) := tidy_setOf _ _ (keysI zs)
theorem keyI_ne {a b : Int} (h : a ≠ b) : keyI a ≠ keyI b := fun e => by
  unfold keyI at e
  injection e with _ e
  exact h e
theorem rev_ind {P : List Int → Prop} (h0 : P []) (h1 : ∀ zs z, P zs → P (zs ++ [z])) : ∀ zs, P zs := by
  intro zs
  rw [← List.reverse_reverse zs]
  induction zs.reverse with
  | nil => exact h0
  | cons a l ih =>
    rw [List.reverse_cons]
    exact h1 _ _ ih
theorem at_setI (y : Int) : ∀ zs : List Int, (setI zs).atKey (keyI y) (.lit (.bool false)) = .lit (.bool (decide (y ∈ zs))) := by
  refine rev_ind (by rfl) fun zs z ih => ?_
  rw [setI_snoc]
  by_cases e : y = z
  · subst e
    rw [atKey_put_same (setI_tidy zs).isMap (keyI_lit y)]
    simp
  · rw [atKey_put_other (keyI_ne e), ih]
    congr 2
    exact decide_eq_decide.2 (by simp [e])
theorem has_setI (y : Int) : ∀ zs : List Int, has (setI zs) (keyI y) = decide (y ∈ zs) := by
  refine rev_ind (by rfl) fun zs z ih => ?_
  rw [setI_snoc]
  by_cases e : y = z
  · subst e
    rw [has_put_same (setI_tidy zs).isMap (keyI_lit y)]
    simp
  · rw [has_put_other (keyI_ne e), ih]
    exact decide_eq_decide.2 (by simp [e])
theorem losts_new {n : Nat} {zs : List Int} {k : Nat} (hk : k < n) (hz : (k : Int) ∉ zs) : losts n (Lof (zs ++ [(k : Int)])) = losts n (Lof zs) + 1 := by
  have hL : ∀ i, Lof (zs ++ [(k : Int)]) i = (Lof zs i || i == k) := fun i => by
    unfold Lof
    rw [Bool.eq_iff_iff]
    simp only [decide_eq_true_eq, Bool.or_eq_true, beq_iff_eq, List.mem_append, List.mem_singleton]
    exact or_congr Iff.rfl ⟨fun h => by omega, fun h => by omega⟩
  unfold losts
  have key : ∀ m, cnt m (Lof (zs ++ [(k : Int)])) = cnt m (Lof zs) + (if k < m then 1 else 0) := by
    intro m
    induction m with
    | zero => rfl
    | succ m ih =>
      rw [cnt_succ, cnt_succ, ih, hL m]
      by_cases e : m = k
      · subst e
        have : Lof zs m = false := by
          unfold Lof
          exact decide_eq_false hz
        rw [this, if_neg (show ¬ m < m by omega), if_pos (show m < m + 1 by omega)]
        simp
      · rw [show (m == k) = false from by simpa using e, Bool.or_false]
        by_cases h : k < m
        · rw [if_pos (show k < m from h), if_pos (show k < m + 1 by omega)]
          omega
        · rw [if_neg (show ¬ k < m from h), if_neg (show ¬ k < m + 1 by omega)]
          omega
  rw [key n, if_pos hk]
theorem losts_old {n : Nat} {zs : List Int} {z : Int} (hz : z ∈ zs) : losts n (Lof (zs ++ [z])) = losts n (Lof zs) := by
  unfold losts
  refine cnt_congr fun i _ => ?_
  unfold Lof
  exact decide_eq_decide.2 ⟨fun h => by
    rcases List.mem_append.1 h with h | h
    · exact h
    · rw [List.mem_singleton.1 h]
      exact hz, fun h => List.mem_append.2 (.inl h)⟩
theorem size_setI {n : Nat} : ∀ zs : List Int, (∀ z ∈ zs, 0 ≤ z ∧ z < (n : Int)) → size (setI zs) = losts n (Lof zs) := by
  refine rev_ind (fun _ => ?_) fun zs z ih h => ?_
  · have : ∀ m, cnt m (Lof []) = 0 := fun m => by
      induction m with
      | zero => rfl
      | succ m ih => rw [cnt_succ, ih]; rfl
    exact (this n).symm
  · have ih := ih fun y hy => h y (List.mem_append.2 (.inl hy))
    obtain ⟨h0, h1⟩ := h z (List.mem_append.2 (.inr (List.mem_singleton.2 rfl)))
    rw [setI_snoc, size_put (setI_tidy zs), has_setI]
    by_cases e : z ∈ zs
    · rw [decide_eq_true e, if_pos rfl, ih, losts_old e]
    · obtain ⟨k, rfl⟩ : ∃ k : Nat, z = (k : Int) := ⟨z.toNat, by omega⟩
      rw [decide_eq_false e, if_neg (by simp), ih, losts_new (by omega) e]
end Go.Proofs.Ytkobcffkgaodbaa.G8
