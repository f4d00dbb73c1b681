/- A slice of bytes as a law's argument. -/
import Derived.Test.YthmgocjmfhpafaaDoorMem
import Derived.DataShut
namespace Go.Proofs.YthmgocjmfhpafaaDoor.Mem
open Go.RowKit
set_option linter.unusedVariables false
set_option linter.unusedSimpArgs false

/-- What a walk is told of a slice of bytes that came in. -/
structure IsBy (w : World) (A : Option Addr) (n cap : Nat) (zs : List Nat) : Prop where
  len : zs.length = n
  le : n ≤ cap
  capm : cap ≤ maxLen
  nil : A = none → cap = 0
  fit : ∀ z ∈ zs, z ≤ 255
  rd : Rd w A (zs.map fun (z : Nat) => .int .u8 (z : Int))
theorem IsBy.of_row {w : World} {A : Option Addr} {n cap : Nat} {zs : List Int} (h : IsRow .u8 w A n cap zs) : ∃ l, IsBy w A n cap l := by
  rcases h with ⟨rfl, rfl, rfl, rfl⟩ | ⟨x, rfl, hle, hcap, hzl, hcell, hwf⟩
  · exact ⟨[], rfl, Nat.le_refl _, by decide, fun _ => rfl, fun z h => (by cases h), fun j h => (by simp at h)⟩
  · have hfit : ∀ z ∈ zs, 0 ≤ z ∧ z ≤ 255 := fun z hz => (Lit.wf_int_iff .u8 _).1 (hwf z hz)
    refine ⟨(zs.take n).map Int.toNat, (by simp; omega), hle, hcap, (fun h => by cases h), ?_, fun j hj => ?_⟩
    · intro z hz
      obtain ⟨q, hq, rfl⟩ := List.mem_map.1 hz
      have := hfit q (List.mem_of_mem_take hq)
      omega
    · have hj' : j < n := by simp at hj; omega
      obtain ⟨b, o, spot⟩ := x
      have h0 := hcell 0 (by omega)
      have hspot : spot = none := by simpa [Addr.add] using World.cell?_spot h0
      subst hspot
      refine ⟨b, o, rfl, World.block_lt_of_cell? _ _ h0, ?_⟩
      have hc := hcell j (by omega)
      have e : (⟨b, o, none⟩ : Addr).add j = ⟨b, o + j, none⟩ := by
        by_cases h : j = 0
        · subst h; rfl
        · simp [Addr.add, h]
      have hjz : j < zs.length := by omega
      rw [e, List.getD_eq_getElem?_getD, List.getElem?_eq_getElem hjz] at hc
      have hz := hfit zs[j] (List.getElem_mem _)
      rw [hc]
      simp only [List.getElem_map, List.getElem_take, Option.getD_some]
      rw [Int.toNat_of_nonneg hz.1]
theorem IsBy.below {w w1 : World} {A : Option Addr} {n cap : Nat} {zs : List Nat} (h : IsBy w A n cap zs) (k : Below w.heap.size w w1) : IsBy w1 A n cap zs := ⟨h.len, h.le, h.capm, h.nil, h.fit, h.rd.below k⟩
theorem IsBy.read {w : World} {A : Option Addr} {n cap : Nat} {zs : List Nat} (h : IsBy w A n cap zs) {k : Nat} (hk : k < n) : ∃ b o, A = some ⟨b, o, none⟩ ∧ b < w.heap.size ∧ w.cell? ⟨b, o + k, none⟩ = some (.int .u8 ((zs.getD k 0 : Nat) : Int)) ∧ zs.getD k 0 ≤ 255 := by
  have hl : k < zs.length := by rw [h.len]; exact hk
  obtain ⟨b, o, e, hb, hc⟩ := h.rd k (by simpa using hl)
  have hz : zs.getD k 0 = zs[k] := by rw [List.getD_eq_getElem?_getD, List.getElem?_eq_getElem hl]; rfl
  refine ⟨b, o, e, hb, ?_, by rw [hz]; exact h.fit _ (List.getElem_mem hl)⟩
  rw [hc, hz]
  simp
end Go.Proofs.YthmgocjmfhpafaaDoor.Mem
