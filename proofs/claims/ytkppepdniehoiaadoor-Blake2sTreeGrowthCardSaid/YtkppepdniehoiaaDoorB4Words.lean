/- An array of eight words as an argument: what the reading says of it, and back. -/
import Derived.Test.YtkppepdniehoiaaDoorB4Ref1
import Derived.OpenShut
import Derived.WalkKit
import Derived.ProofKit
namespace Go.Proofs.YtkppepdniehoiaaDoor.B4
open Go.RowKit Mem Go.ChangeShapes Go.WideShapes Go.ChangeAt
set_option linter.unusedVariables false
set_option linter.unusedSimpArgs false

section
variable {H : Type} {enc : TypeId × Value → H} {P : Program} {w : World} {base : Nat} {spare : Nat → Bool} {held : Bool} {r : Reach} {b0 : Nat}
def wordsD (l : List R) : DataW H := .agg (l.map fun x => .lit (.int .u32 (x.toNat : Int)))
theorem wf_word (x : R) : (Lit.int .u32 (x.toNat : Int)).wf = true := by
  have := x.isLt
  simp [Lit.wf, IntKind.min, IntKind.max, IntKind.signed, IntKind.bits]
  omega
theorem open_words {t e : TypeId} {v : Value} {d : DataW H} {ps : List MemPlace} (ht : P.underlying t = some (.array 8 e)) (he : P.underlying e = some (.int .u32)) (hce : P.cellsOf e = 1) (hct : P.cellsOf t = 8)
    (hval : Value.okWide P w r b0 t v) (hd : DataW.Trod enc P w base spare held t v d ps) : ∃ l : List R, l.length = 8 ∧ v = av l ∧ d = wordsD l ∧ ps = [] := by
  unfold Value.okWide at hval
  rw [ht] at hval
  obtain ⟨cs, rfl, hsz, _⟩ := hval
  obtain ⟨fuel, hf⟩ := hd
  obtain ⟨xs, m, rfl, hx, hlen, hxl, hel⟩ := DataW.trod_array ht hf
  simp only [Prod.mk.injEq] at hx
  obtain ⟨rfl, rfl⟩ := hx
  rw [hct] at hsz
  have hcl : cs.toList.length = 8 := by simpa using hsz
  have each : ∀ i, i < 8 → ∃ x : R, cs.toList[i]? = some (wv x) ∧ xs[i]? = some (.lit (.int .u32 (x.toNat : Int)), []) := fun i hi => by
    have h1 := hel i hi
    rw [hce, Nat.mul_one, List.getElem?_eq_getElem (by omega)] at h1
    obtain ⟨n, h2, h3, h4⟩ := DataW.trod_int he h1
    have hb : 0 ≤ n ∧ n < 4294967296 := by
      simp [Lit.wf, IntKind.min, IntKind.max, IntKind.signed, IntKind.bits] at h4
      omega
    have hn : ((BitVec.ofNat 32 n.toNat).toNat : Int) = n := by
      rw [BitVec.toNat_ofNat]
      omega
    refine ⟨BitVec.ofNat 32 n.toNat, ?_, ?_⟩
    · have h5 : (List.take 1 (List.drop i cs.toList))[0]? = some (.int .u32 n) := by
        have : (Value.agg cs).cells.toList = cs.toList := rfl
        rw [← this, h2]
        rfl
      unfold wv
      rw [hn]
      simpa [List.getElem?_take, List.getElem?_drop] using h5
    · rw [List.getElem?_eq_getElem (by omega), h3, hn]
  let l : List R := (List.range 8).map fun i => if h : i < 8 then (each i h).choose else 0
  have hl : l.length = 8 := by simp [l]
  have hli : ∀ i (h : i < 8), l[i]? = some (each i h).choose := fun i h => by simp [l, h]
  refine ⟨l, hl, ?_, ?_, ?_⟩
  · unfold av
    congr 1
    apply Array.toList_inj.1
    apply List.ext_getElem?
    intro i
    by_cases hi : i < 8
    · rw [(each i hi).choose_spec.1]
      simp only [wvs, List.getElem?_map, hli i hi, Option.map_some]
    · rw [List.getElem?_eq_none (by omega), List.getElem?_eq_none (by rw [show (wvs l).toArray.toList = wvs l from rfl, wvs_len]; omega)]
  · unfold wordsD
    congr 1
    apply List.ext_getElem?
    intro i
    by_cases hi : i < 8
    · rw [List.getElem?_map, List.getElem?_map, (each i hi).choose_spec.2, hli i hi]
      rfl
    · rw [List.getElem?_eq_none (by simp; omega), List.getElem?_eq_none (by simp; omega)]
  · rw [List.flatMap_eq_nil_iff]
    intro y hy
    obtain ⟨i, hi, rfl⟩ := List.mem_iff_getElem.1 hy
    obtain ⟨x, _, h1⟩ := each i (by omega)
    rw [List.getElem?_eq_getElem hi] at h1
    rw [Option.some.inj h1]
theorem shut_words {t e : TypeId} {l : List R} (hl : l.length = 8) (ht : P.underlying t = some (.array 8 e)) (he : P.underlying e = some (.int .u32)) (hce : P.cellsOf e = 1) (hct : P.cellsOf t = 8) : DataW.Trod enc P w base spare held t (av l) (wordsD l) [] := by
  match l, hl with
  | [a0, a1, a2, a3, a4, a5, a6, a7], _ =>
    refine ⟨2, ?_⟩
    have h0 := wf_word a0
    have h1 := wf_word a1
    have h2 := wf_word a2
    have h3 := wf_word a3
    have h4 := wf_word a4
    have h5 := wf_word a5
    have h6 := wf_word a6
    have h7 := wf_word a7
    simp [DataW.trod, Value.cells, ht, he, hce, hct, av, wvs, wv, wordsD, List.range, List.range.loop, h0, h1, h2, h3, h4, h5, h6, h7]
end
end Go.Proofs.YtkppepdniehoiaaDoor.B4
