/- An array of n bytes as an argument: what the reading says of it, and back. An array of thirteen bytes as a result. -/
import Derived.Test.YtpbcncfbfbghcaaGreatDoorP20A
import Derived.OpenShut
import Derived.WalkKit
import Derived.ProofKit
import Derived.RangeFuncRecord
namespace Go.Proofs.YtpbcncfbfbghcaaGreatDoor.Mem
open Go.RowKit Go.ChangeShapes Go.WideShapes Go.ChangeAt
set_option linter.unusedVariables false
set_option linter.unusedSimpArgs false

def bav (l : List UInt8) : Value := .agg (bys l).toArray
section
variable {H : Type} {enc : TypeId × Value → H} {P : Program} {w : World} {base : Nat} {spare : Nat → Bool} {held : Bool} {r : Reach} {b0 : Nat}
def bytesD (l : List UInt8) : DataW H := .agg (l.map fun x => .lit (.int .u8 (x.toNat : Int)))
theorem wf_byte (x : UInt8) : (Lit.int .u8 (x.toNat : Int)).wf = true := by
  have := x.toNat_lt
  simp [Lit.wf, IntKind.min, IntKind.max, IntKind.signed, IntKind.bits]
  omega
theorem open_bytesA {N : Nat} {t e : TypeId} {v : Value} {d : DataW H} {ps : List MemPlace} (ht : P.underlying t = some (.array N e)) (he : P.underlying e = some (.int .u8)) (hce : P.cellsOf e = 1) (hct : P.cellsOf t = N)
    (hval : Value.okWide P w r b0 t v) (hd : DataW.Trod enc P w base spare held t v d ps) : ∃ l : List UInt8, l.length = N ∧ v = bav l ∧ d = bytesD l ∧ ps = [] := by
  unfold Value.okWide at hval
  rw [ht] at hval
  obtain ⟨cs, rfl, hsz, _⟩ := hval
  obtain ⟨fuel, hf⟩ := hd
  obtain ⟨xs, m, rfl, hx, hlen, hxl, hel⟩ := DataW.trod_array ht hf
  simp only [Prod.mk.injEq] at hx
  obtain ⟨rfl, rfl⟩ := hx
  rw [hct] at hsz
  have hcl : cs.toList.length = N := by simpa using hsz
  have each : ∀ i, i < N → ∃ x : UInt8, cs.toList[i]? = some (.int .u8 (x.toNat : Int)) ∧ xs[i]? = some (.lit (.int .u8 (x.toNat : Int)), []) := fun i hi => by
    have h1 := hel i hi
    rw [hce, Nat.mul_one, List.getElem?_eq_getElem (by omega)] at h1
    obtain ⟨n, h2, h3, h4⟩ := DataW.trod_int he h1
    have hb : 0 ≤ n ∧ n < 256 := by
      simp [Lit.wf, IntKind.min, IntKind.max, IntKind.signed, IntKind.bits] at h4
      omega
    have hn : ((UInt8.ofNat n.toNat).toNat : Int) = n := by
      rw [UInt8.toNat_ofNat']
      omega
    refine ⟨UInt8.ofNat n.toNat, ?_, ?_⟩
    · have h5 : (List.take 1 (List.drop i cs.toList))[0]? = some (.int .u8 n) := by
        have : (Value.agg cs).cells.toList = cs.toList := rfl
        rw [← this, h2]
        rfl
      rw [hn]
      simpa [List.getElem?_take, List.getElem?_drop] using h5
    · rw [List.getElem?_eq_getElem (by omega), h3, hn]
  let l : List UInt8 := (List.range N).map fun i => if h : i < N then (each i h).choose else 0
  have hl : l.length = N := by simp [l]
  have hli : ∀ i (h : i < N), l[i]? = some (each i h).choose := fun i h => by simp [l, h]
  refine ⟨l, hl, ?_, ?_, ?_⟩
  · unfold bav
    congr 1
    apply Array.toList_inj.1
    apply List.ext_getElem?
    intro i
    by_cases hi : i < N
    · rw [(each i hi).choose_spec.1]
      simp only [bys, List.getElem?_map, hli i hi, Option.map_some]
    · rw [List.getElem?_eq_none (by omega), List.getElem?_eq_none (by rw [show (bys l).toArray.toList = bys l from rfl, bys_len]; omega)]
  · unfold bytesD
    congr 1
    apply List.ext_getElem?
    intro i
    by_cases hi : i < N
    · rw [List.getElem?_map, List.getElem?_map, (each i hi).choose_spec.2, hli i hi]
      rfl
    · rw [List.getElem?_eq_none (by simp; omega), List.getElem?_eq_none (by simp; omega)]
  · rw [List.flatMap_eq_nil_iff]
    intro y hy
    obtain ⟨i, hi, rfl⟩ := List.mem_iff_getElem.1 hy
    obtain ⟨x, _, h1⟩ := each i (by omega)
    rw [List.getElem?_eq_getElem hi] at h1
    rw [Option.some.inj h1]
theorem shut_bytes16 {t e : TypeId} {l : List UInt8} (hl : l.length = 16) (ht : P.underlying t = some (.array 16 e)) (he : P.underlying e = some (.int .u8)) (hce : P.cellsOf e = 1) (hct : P.cellsOf t = 16) : DataW.Trod enc P w base spare held t (bav l) (bytesD l) [] := by
  match l, hl with
  | [a0, a1, a2, a3, a4, a5, a6, a7, a8, a9, aa, ab, ac, ad, ae, af], _ =>
    refine ⟨2, ?_⟩
    simp [DataW.trod, Value.cells, ht, he, hce, hct, bav, bys, bytesD, List.range, List.range.loop, wf_byte]
end
/-- A fresh block of bytes, of whatever type. -/
theorem at_of_block {W : World} {g : Nat} {l : List UInt8} {T : TypeId} (h : W.heap[g]? = some (.cells (bys l).toArray T (0, 0))) : BAt W g l := fun j hj => by
  have q := bys_get l j hj
  refine ⟨?_, ?_⟩
  · simp [World.cell?, h, q]
  · simp [World.frozen?, h]
theorem at_of_alloc (w : World) (T : TypeId) (l : List UInt8) : BAt (w.alloc (.cells (bys l).toArray T)) w.heap.size l := at_of_block (World.alloc_heap_new w (.cells (bys l).toArray T))
end Go.Proofs.YtpbcncfbfbghcaaGreatDoor.Mem
namespace Go.Proofs.YtpbcncfbfbghcaaGreatDoor.Mem
open Go.RowKit Go.ChangeShapes Go.WideShapes Go.ChangeAt
set_option linter.unusedVariables false
set_option linter.unusedSimpArgs false
section
variable {H : Type} {enc : TypeId × Value → H} {P : Program} {w : World} {base : Nat} {spare : Nat → Bool} {held : Bool} {r : Reach} {b0 : Nat}
theorem shut_bytes13 {t e : TypeId} {l : List UInt8} (hl : l.length = 13) (ht : P.underlying t = some (.array 13 e)) (he : P.underlying e = some (.int .u8)) (hce : P.cellsOf e = 1) (hct : P.cellsOf t = 13) : DataW.Trod enc P w base spare held t (bav l) (bytesD l) [] := by
  match l, hl with
  | [a0, a1, a2, a3, a4, a5, a6, a7, a8, a9, aa, ab, ac], _ =>
    refine ⟨2, ?_⟩
    simp [DataW.trod, Value.cells, ht, he, hce, hct, bav, bys, bytesD, List.range, List.range.loop, wf_byte]
end
end Go.Proofs.YtpbcncfbfbghcaaGreatDoor.Mem
