/- An array of four integers as an argument: what the reading says of it, and back. -/
import Derived.Test.YtmkmikegddafdaaMem
import Derived.OpenShut
import Derived.WalkKit
import Derived.ProofKit
namespace Go.Proofs.Ytmkmikegddafdaa.Mem
open Go.RowKit Go.ChangeShapes Go.WideShapes Go.ChangeAt
set_option linter.unusedVariables false
set_option linter.unusedSimpArgs false

section
variable {H : Type} {enc : TypeId × Value → H} {P : Program} {w : World} {base : Nat} {spare : Nat → Bool} {held : Bool} {r : Reach} {b0 : Nat}
theorem open_arr4 {k : IntKind} {t e : TypeId} {v : Value} {d : DataW H} {ps : List MemPlace} (ht : P.underlying t = some (.array 4 e)) (he : P.underlying e = some (.int k)) (hce : P.cellsOf e = 1) (hct : P.cellsOf t = 4)
    (hval : Value.okWide P w r b0 t v) (hd : DataW.Trod enc P w base spare held t v d ps) :
    ∃ e0 e1 e2 e3 : Int, ((Lit.int k e0).wf = true ∧ (Lit.int k e1).wf = true ∧ (Lit.int k e2).wf = true ∧ (Lit.int k e3).wf = true) ∧ v = .agg #[.int k e0, .int k e1, .int k e2, .int k e3] ∧ d = .agg [.lit (.int k e0), .lit (.int k e1), .lit (.int k e2), .lit (.int k e3)] ∧ ps = [] := by
  unfold Value.okWide at hval
  rw [ht] at hval
  obtain ⟨cs, rfl, hsz, _⟩ := hval
  obtain ⟨fuel, hf⟩ := hd
  obtain ⟨xs, m, rfl, hx, hlen, hxl, hel⟩ := DataW.trod_array ht hf
  simp only [Prod.mk.injEq] at hx
  obtain ⟨rfl, rfl⟩ := hx
  rw [hct] at hsz
  have hcl : cs.toList.length = 4 := by simpa using hsz
  have each : ∀ i, i < 4 → ∃ n : Int, (Lit.int k n).wf = true ∧ cs.toList[i]? = some (.int k n) ∧ xs[i]? = some (.lit (.int k n), []) := fun i hi => by
    have h1 := hel i hi
    rw [hce, Nat.mul_one, List.getElem?_eq_getElem (by omega)] at h1
    obtain ⟨n, h2, h3, h4⟩ := DataW.trod_int he h1
    refine ⟨n, h4, ?_, ?_⟩
    · have h5 : (List.take 1 (List.drop i cs.toList))[0]? = some (.int k n) := by
        have : (Value.agg cs).cells.toList = cs.toList := rfl
        rw [← this, h2]
        rfl
      simpa [List.getElem?_take, List.getElem?_drop] using h5
    · rw [List.getElem?_eq_getElem (by omega), h3]
  obtain ⟨e0, a0, b0, c0⟩ := each 0 (by decide)
  obtain ⟨e1, a1, b1, c1⟩ := each 1 (by decide)
  obtain ⟨e2, a2, b2, c2⟩ := each 2 (by decide)
  obtain ⟨e3, a3, b3, c3⟩ := each 3 (by decide)
  have four : ∀ {α : Type} (l : List α) (x0 x1 x2 x3 : α), l.length = 4 → l[0]? = some x0 → l[1]? = some x1 → l[2]? = some x2 → l[3]? = some x3 → l = [x0, x1, x2, x3] := by
    intro α l x0 x1 x2 x3 hl h0 h1 h2 h3
    match l, hl with
    | [y0, y1, y2, y3], _ =>
      simp at h0 h1 h2 h3
      rw [h0, h1, h2, h3]
  have hxs : xs = [(.lit (.int k e0), []), (.lit (.int k e1), []), (.lit (.int k e2), []), (.lit (.int k e3), [])] := four xs _ _ _ _ (by omega) c0 c1 c2 c3
  have hcs : cs.toList = [.int k e0, .int k e1, .int k e2, .int k e3] := four cs.toList _ _ _ _ hcl b0 b1 b2 b3
  refine ⟨e0, e1, e2, e3, ⟨a0, a1, a2, a3⟩, ?_, ?_, ?_⟩
  · congr 1
    apply Array.toList_inj.1
    rw [hcs]
  · rw [hxs]
    rfl
  · rw [hxs]
    rfl
theorem shut_arr4 {k : IntKind} {t e : TypeId} {e0 e1 e2 e3 : Int} (hw : (Lit.int k e0).wf = true ∧ (Lit.int k e1).wf = true ∧ (Lit.int k e2).wf = true ∧ (Lit.int k e3).wf = true) (ht : P.underlying t = some (.array 4 e)) (he : P.underlying e = some (.int k)) (hce : P.cellsOf e = 1) (hct : P.cellsOf t = 4) :
    DataW.Trod enc P w base spare held t (.agg #[.int k e0, .int k e1, .int k e2, .int k e3]) (.agg [.lit (.int k e0), .lit (.int k e1), .lit (.int k e2), .lit (.int k e3)]) [] := by
  obtain ⟨h0, h1, h2, h3⟩ := hw
  refine ⟨2, ?_⟩
  simp [DataW.trod, Value.cells, ht, he, hce, hct, List.range, List.range.loop, h0, h1, h2, h3]
end
end Go.Proofs.Ytmkmikegddafdaa.Mem
