/- Slices of integers: what a walk is told of one that came in, or was handed back. -/
import Derived.DataShut
import Derived.Test.YtcfoclmkhippoaaRows
import Derived.Test.YtcfoclmkhippoaaMem
import Derived.Lib.Hide
import Derived.Laws.OwnMore
namespace Go.Proofs.Ytcfoclmkhippoaa.G8
set_option maxRecDepth 100000
open Go.RowKit Mem
set_option linter.unusedVariables false
set_option linter.unusedSimpArgs false

/-- Integers as cells. -/
def is (l : List Int) : List Value := l.map fun z => .int .i64 z
theorem is_len (l : List Int) : (is l).length = l.length := by simp [is]
theorem is_snoc (l : List Int) (z : Int) : is (l ++ [z]) = is l ++ [.int .i64 z] := by simp [is]
theorem is_append (l m : List Int) : is (l ++ m) = is l ++ is m := by simp [is]
theorem is_get (l : List Int) (j : Nat) (h : j < (is l).length) : (is l)[j] = .int .i64 (l.getD j 0) := by
  have h' : j < l.length := by rwa [is_len] at h
  simp [is, List.getD_eq_getElem?_getD, List.getElem?_eq_getElem h']
structure IsInts (w : World) (A : Option Addr) (cap : Nat) (l : List Int) : Prop where
  hle : l.length ≤ cap
  hcap : cap ≤ 9223372036854775807
  hnil : A = none → cap = 0
  rd : Rd w A (is l)
  fit : ∀ z ∈ l, -9223372036854775808 ≤ z ∧ z ≤ 9223372036854775807
theorem IsInts.below {w w' : World} {A : Option Addr} {cap : Nat} {l : List Int} (h : IsInts w A cap l) (k : Below w.heap.size w w') : IsInts w' A cap l := ⟨h.hle, h.hcap, h.hnil, h.rd.below k, h.fit⟩
theorem IsInts.drew {w : World} {A : Option Addr} {cap : Nat} {l : List Int} (h : IsInts w A cap l) : IsInts w.drew A cap l := ⟨h.hle, h.hcap, h.hnil, h.rd.drew, h.fit⟩
theorem IsInts.no (w : World) : IsInts w none 0 [] := ⟨Nat.le_refl _, by decide, fun _ => rfl, fun j h => by simp [is] at h, fun z h => by simp at h⟩
theorem IsInts.read {w : World} {A : Option Addr} {cap : Nat} {l : List Int} (h : IsInts w A cap l) (j : Nat) (hj : j < l.length) :
    ∃ b o : Nat, A = some ⟨b, o, none⟩ ∧ b < w.heap.size ∧ w.cell? ⟨b, o + j, none⟩ = some (.int .i64 (l.getD j 0)) := by
  obtain ⟨b, o, e, hb, hc⟩ := h.rd j (by rw [is_len]; exact hj)
  rw [is_get] at hc
  exact ⟨b, o, e, hb, hc⟩
theorem IsInts.get_fit {w : World} {A : Option Addr} {cap : Nat} {l : List Int} (h : IsInts w A cap l) (j : Nat) (hj : j < l.length) : -9223372036854775808 ≤ l.getD j 0 ∧ l.getD j 0 ≤ 9223372036854775807 := by
  refine h.fit _ ?_
  rw [List.getD_eq_getElem?_getD, List.getElem?_eq_getElem hj]
  exact List.getElem_mem _
theorem IsInts.of_own {w : World} {base cap n : Nat} {e : TypeId} {A : Option Addr} {l : List Int} (h : w.ownsRow base e 1 (.slice A n cap) n (is l)) (hf : ∀ z ∈ l, -9223372036854775808 ≤ z ∧ z ≤ 9223372036854775807) : IsInts w A cap l ∧ l.length = n := by
  have hl : l.length = n := by have := h.1; rw [is_len] at this; omega
  obtain ⟨A', cap', hv, h1, h2⟩ := own_slice h
  injection hv with e1 e2 e3
  subst e1 e3
  refine ⟨⟨by omega, h2, fun hA => ?_, Rd.of_own h, hf⟩, hl⟩
  subst hA
  rcases h.2 with ⟨h0, _⟩ | ⟨g, cap', cur, hv, _⟩
  · injection h0
  · injection hv with hv
    cases hv
theorem IsInts.made (w : World) (e : TypeId) (l : List Int) (cs : Array Value) (N n : Nat) (h : cs.toList = is l) (hN : w.heap.size = N) (hn : l.length = n) (hb : n ≤ 9223372036854775807) (hf : ∀ z ∈ l, -9223372036854775808 ≤ z ∧ z ≤ 9223372036854775807) : IsInts (w.alloc (.cells cs e)) (some ⟨N, 0, none⟩) n l := by
  subst hN hn
  refine ⟨Nat.le_refl _, hb, (fun h => by cases h), fun j hj => ⟨w.heap.size, 0, rfl, by simp, ?_⟩, hf⟩
  rw [World.cell?_alloc_new, Nat.zero_add]
  have hj' : j < cs.toList.length := by rw [h]; exact hj
  have hj2 : j < cs.size := by simpa using hj'
  simp only [Array.getElem?_eq_getElem hj2]
  congr 1
  have : cs.toList[j] = (is l)[j] := by simp only [h]
  simpa using this
theorem IsInts.of_row {w : World} {a : Option Addr} {len cap : Nat} {zs : List Int} (h : IsRow .i64 w a len cap zs) : ∃ l : List Int, l.length = len ∧ IsInts w a cap l := by
  rcases h with ⟨rfl, rfl, rfl, rfl⟩ | ⟨x, rfl, h1, h2, h3, h4, h5⟩
  · exact ⟨[], rfl, IsInts.no w⟩
  · have hl : (zs.take len).length = len := by rw [List.length_take]; omega
    refine ⟨zs.take len, hl, by rw [hl]; exact h1, h2, (fun e => by cases e), fun j hj => ?_, fun z hz => ?_⟩
    · rw [is_len, hl] at hj
      obtain ⟨b, o, spot⟩ := x
      have h0 := h4 0 (by omega)
      have hspot : spot = none := by simpa [Addr.add] using World.cell?_spot h0
      subst hspot
      refine ⟨b, o, rfl, World.block_lt_of_cell? _ _ h0, ?_⟩
      have hc := h4 j (by omega)
      have e : (⟨b, o, none⟩ : Addr).add j = ⟨b, o + j, none⟩ := by
        by_cases h : j = 0
        · subst h; rfl
        · simp [Addr.add, h]
      rw [e] at hc
      rw [hc, is_get]
      simp only [List.getD_eq_getElem?_getD, List.getElem?_take]
      rw [if_pos hj]
    · obtain ⟨k1, k2⟩ := (Lit.wf_int_iff .i64 _).1 (h5 z (List.mem_of_mem_take hz))
      exact ⟨k1, k2⟩
theorem info_int : (Try.prog.info? 3).map (fun i => (i.zero, i.size, i.bytes)) = some (some (.int .i64 0), 1, 8) := by kernel_rfl
end Go.Proofs.Ytcfoclmkhippoaa.G8
