/- Sets of integers as maps to true that the call makes. -/
import Derived.Test.YtiodkllckcpinaaGreatDoorM14AL
import Derived.Maps.Own
import Derived.Maps.OwnSet
import Derived.Maps.Views
set_option linter.unusedVariables false
set_option linter.unusedSimpArgs false
set_option maxRecDepth 100000
namespace Go.Proofs.YtiodkllckcpinaaGreatDoor
namespace G8
open Go.RowKit Mem
open Go.Maps

def keyI (z : Int) : Lit := .int .i64 z
def setI (zs : List Int) : DataW Unit := setOf (.lit (.bool true)) (zs.map keyI)
theorem keyI_lit (z : Int) : WideAt.IsKeyLit (keyI z) := trivial
theorem keysI (zs : List Int) : ∀ x ∈ zs.map keyI, WideAt.IsKeyLit x := fun x hx => by
 obtain ⟨z, _, rfl⟩ := List.mem_map.1 hx
 exact keyI_lit z
theorem setI_snoc (zs : List Int) (z : Int) : setI (zs ++ [z]) = (setI zs).put (keyI z) (.lit (.bool true)) := by
 unfold setI
 rw [List.map_append]
 exact setOf_snoc _ _ _
theorem setI_tidy (zs : List Int) : Tidy (setI zs) := tidy_setOf _ _ (keysI zs)
theorem keyI_ne {a b : Int} (h : a ≠ b) : keyI a ≠ keyI b := fun e => by
 unfold keyI at e
 injection e with _ e
 exact h e
theorem rev_ind {P : List Int → Prop} (h0 : P []) (h1 : ∀ zs z, P zs → P (zs ++ [z])) : ∀ zs, P zs := by
 intro zs
 rw [← List.reverse_reverse zs]
 induction zs.reverse with
 | nil => exact h0
 | cons a l ih =>
  rw [List.reverse_cons]
  exact h1 _ _ ih
theorem at_setI (y : Int) : ∀ zs : List Int, (setI zs).atKey (keyI y) (.lit (.bool false)) = .lit (.bool (decide (y ∈ zs))) := by
 refine rev_ind (by rfl) fun zs z ih => ?_
 rw [setI_snoc]
 by_cases e : y = z
 ·subst e
  rw [atKey_put_same (setI_tidy zs).isMap (keyI_lit y)]
  simp
 ·rw [atKey_put_other (keyI_ne e), ih]
  congr 2
  exact decide_eq_decide.2 (by simp [e])
theorem has_setI (y : Int) : ∀ zs : List Int, has (setI zs) (keyI y) = decide (y ∈ zs) := by
 refine rev_ind (by rfl) fun zs z ih => ?_
 rw [setI_snoc]
 by_cases e : y = z
 ·subst e
  rw [has_put_same (setI_tidy zs).isMap (keyI_lit y)]
  simp
 ·rw [has_put_other (keyI_ne e), ih]
  exact decide_eq_decide.2 (by simp [e])
end G8
end Go.Proofs.YtiodkllckcpinaaGreatDoor
