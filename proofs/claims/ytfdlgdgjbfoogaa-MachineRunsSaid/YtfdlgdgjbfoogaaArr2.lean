/- An array of two integers as an argument: what the reading says of it, and back. -/
import Derived.Test.YtfdlgdgjbfoogaaMem
import Derived.OpenShut
import Derived.WalkKit
import Derived.ProofKit
namespace Go.Proofs.Ytfdlgdgjbfoogaa.Mem
open Go.RowKit Go.ChangeShapes Go.WideShapes Go.ChangeAt
set_option linter.unusedVariables false
set_option linter.unusedSimpArgs false

section
variable {H : Type} {enc : TypeId × Value → H} {P : Program} {w : World} {base : Nat} {spare : Nat → Bool} {held : Bool} {r : Reach} {b0 : Nat}
theorem open_arr2 {k : IntKind} {t e : TypeId} {v : Value} {d : DataW H} {ps : List MemPlace} (ht : P.underlying t = some (.array 2 e)) (he : P.underlying e = some (.int k)) (hce : P.cellsOf e = 1) (hct : P.cellsOf t = 2)
    (hval : Value.okWide P w r b0 t v) (hd : DataW.Trod enc P w base spare held t v d ps) :
    ∃ e0 e1 : Int, ((Lit.int k e0).wf = true ∧ (Lit.int k e1).wf = true) ∧ v = .agg #[.int k e0, .int k e1] ∧ d = .agg [.lit (.int k e0), .lit (.int k e1)] ∧ ps = [] := by
  unfold Value.okWide at hval
  rw [ht] at hval
  obtain ⟨cs, rfl, hsz, _⟩ := hval
  obtain ⟨fuel, hf⟩ := hd
  obtain ⟨xs, m, rfl, hx, hlen, hxl, hel⟩ := DataW.trod_array ht hf
  simp only [Prod.mk.injEq] at hx
  obtain ⟨rfl, rfl⟩ := hx
  rw [hct] at hsz
  have hcl : cs.toList.length = 2 := by simpa using hsz
  have each : ∀ i, i < 2 → ∃ n : Int, (Lit.int k n).wf = true ∧ cs.toList[i]? = some (.int k n) ∧ xs[i]? = some (.lit (.int k n), []) := fun i hi => by
    have h1 := hel i hi
    rw [hce, Nat.mul_one, List.getElem?_eq_getElem (by omega)] at h1
    obtain ⟨n, h2, h3, h4⟩ := DataW.trod_int he h1
    refine ⟨n, h4, ?_, ?_⟩
    · have h5 : (List.take 1 (List.drop i cs.toList))[0]? = some (.int k n) := by
        have : (Value.agg cs).cells.toList = cs.toList := rfl
        rw [← this, h2]
        rfl
      simpa [List.getElem?_take, List.getElem?_drop] using h5
    · rw [List.getElem?_eq_getElem (by omega), h3]
  obtain ⟨e0, a0, b0, c0⟩ := each 0 (by decide)
  obtain ⟨e1, a1, b1, c1⟩ := each 1 (by decide)
  have two : ∀ {α : Type} (l : List α) (x0 x1 : α), l.length = 2 → l[0]? = some x0 → l[1]? = some x1 → l = [x0, x1] := by
    intro α l x0 x1 hl h0 h1
    match l, hl with
    | [y0, y1], _ =>
      simp at h0 h1
      rw [h0, h1]
  have hxs : xs = [(.lit (.int k e0), []), (.lit (.int k e1), [])] := two xs _ _ (by omega) c0 c1
  have hcs : cs.toList = [.int k e0, .int k e1] := two cs.toList _ _ hcl b0 b1
  refine ⟨e0, e1, ⟨a0, a1⟩, ?_, ?_, ?_⟩
  · congr 1
    apply Array.toList_inj.1
    rw [hcs]
  · rw [hxs]
    rfl
  · rw [hxs]
    rfl
theorem shut_arr2 {k : IntKind} {t e : TypeId} {e0 e1 : Int} (hw : (Lit.int k e0).wf = true ∧ (Lit.int k e1).wf = true) (ht : P.underlying t = some (.array 2 e)) (he : P.underlying e = some (.int k)) (hce : P.cellsOf e = 1) (hct : P.cellsOf t = 2) :
    DataW.Trod enc P w base spare held t (.agg #[.int k e0, .int k e1]) (.agg [.lit (.int k e0), .lit (.int k e1)]) [] := by
  obtain ⟨h0, h1⟩ := hw
  refine ⟨2, ?_⟩
  simp [DataW.trod, Value.cells, ht, he, hce, hct, List.range, List.range.loop, h0, h1]
end
end Go.Proofs.Ytfdlgdgjbfoogaa.Mem
