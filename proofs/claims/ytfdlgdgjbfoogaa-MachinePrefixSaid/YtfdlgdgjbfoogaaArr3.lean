/- An array of three integers as an argument: what the reading says of it, and back. -/
import Derived.Test.YtfdlgdgjbfoogaaMem
import Derived.OpenShut
import Derived.WalkKit
import Derived.ProofKit
namespace Go.Proofs.Ytfdlgdgjbfoogaa.Mem
open Go.RowKit Go.ChangeShapes Go.WideShapes Go.ChangeAt
set_option linter.unusedVariables false
set_option linter.unusedSimpArgs false

section
variable {H : Type} {enc : TypeId × Value → H} {P : Program} {w : World} {base : Nat} {spare : Nat → Bool} {held : Bool} {r : Reach} {b0 : Nat}
theorem open_arr3 {k : IntKind} {t e : TypeId} {v : Value} {d : DataW H} {ps : List MemPlace} (ht : P.underlying t = some (.array 3 e)) (he : P.underlying e = some (.int k)) (hce : P.cellsOf e = 1) (hct : P.cellsOf t = 3)
    (hval : Value.okWide P w r b0 t v) (hd : DataW.Trod enc P w base spare held t v d ps) :
    ∃ e0 e1 e2 : Int, ((Lit.int k e0).wf = true ∧ (Lit.int k e1).wf = true ∧ (Lit.int k e2).wf = true) ∧ v = .agg #[.int k e0, .int k e1, .int k e2] ∧ d = .agg [.lit (.int k e0), .lit (.int k e1), .lit (.int k e2)] ∧ ps = [] := by
  unfold Value.okWide at hval
  rw [ht] at hval
  obtain ⟨cs, rfl, hsz, _⟩ := hval
  obtain ⟨fuel, hf⟩ := hd
  obtain ⟨xs, m, rfl, hx, hlen, hxl, hel⟩ := DataW.trod_array ht hf
  simp only [Prod.mk.injEq] at hx
  obtain ⟨rfl, rfl⟩ := hx
  rw [hct] at hsz
  have hcl : cs.toList.length = 3 := by simpa using hsz
  have each : ∀ i, i < 3 → ∃ n : Int, (Lit.int k n).wf = true ∧ cs.toList[i]? = some (.int k n) ∧ xs[i]? = some (.lit (.int k n), []) := fun i hi => by
    have h1 := hel i hi
    rw [hce, Nat.mul_one, List.getElem?_eq_getElem (by omega)] at h1
    obtain ⟨n, h2, h3, h4⟩ := DataW.trod_int he h1
    refine ⟨n, h4, ?_, ?_⟩
    · have h5 : (List.take 1 (List.drop i cs.toList))[0]? = some (.int k n) := by
        have : (Value.agg cs).cells.toList = cs.toList := rfl
        rw [← this, h2]
        rfl
      simpa [List.getElem?_take, List.getElem?_drop] using h5
    · rw [List.getElem?_eq_getElem (by omega), h3]
  obtain ⟨e0, a0, b0, c0⟩ := each 0 (by decide)
  obtain ⟨e1, a1, b1, c1⟩ := each 1 (by decide)
  obtain ⟨e2, a2, b2, c2⟩ := each 2 (by decide)
  have two : ∀ {α : Type} (l : List α) (x0 x1 x2 : α), l.length = 3 → l[0]? = some x0 → l[1]? = some x1 → l[2]? = some x2 → l = [x0, x1, x2] := by
    intro α l x0 x1 x2 hl h0 h1 h2
    match l, hl with
    | [y0, y1, y2], _ =>
      simp at h0 h1 h2
      rw [h0, h1, h2]
  have hxs : xs = [(.lit (.int k e0), []), (.lit (.int k e1), []), (.lit (.int k e2), [])] := two xs _ _ _ (by omega) c0 c1 c2
  have hcs : cs.toList = [.int k e0, .int k e1, .int k e2] := two cs.toList _ _ _ hcl b0 b1 b2
  refine ⟨e0, e1, e2, ⟨a0, a1, a2⟩, ?_, ?_, ?_⟩
  · congr 1
    apply Array.toList_inj.1
    rw [hcs]
  · rw [hxs]
    rfl
  · rw [hxs]
    rfl
theorem shut_arr3 {k : IntKind} {t e : TypeId} {e0 e1 e2 : Int} (hw : (Lit.int k e0).wf = true ∧ (Lit.int k e1).wf = true ∧ (Lit.int k e2).wf = true) (ht : P.underlying t = some (.array 3 e)) (he : P.underlying e = some (.int k)) (hce : P.cellsOf e = 1) (hct : P.cellsOf t = 3) :
    DataW.Trod enc P w base spare held t (.agg #[.int k e0, .int k e1, .int k e2]) (.agg [.lit (.int k e0), .lit (.int k e1), .lit (.int k e2)]) [] := by
  obtain ⟨h0, h1, h2⟩ := hw
  refine ⟨2, ?_⟩
  simp [DataW.trod, Value.cells, ht, he, hce, hct, List.range, List.range.loop, h0, h1, h2]
end
end Go.Proofs.Ytfdlgdgjbfoogaa.Mem
