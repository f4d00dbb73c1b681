/- A row that a loop fills, entry by entry, and what stays meanwhile. No function is named here. -/
import Derived.Test.YtcfoclmkhippoaaE15Sh
namespace Go.Proofs.Ytcfoclmkhippoaa.E15
set_option maxRecDepth 100000
open Go.RowKit Mem S14
open Go.Proofs.Ytcfoclmkhippoaa.G5 Go.Proofs.Ytcfoclmkhippoaa.G7
set_option linter.unusedVariables false
set_option linter.unusedSimpArgs false

/-- The first k of n entries are there, the others are z. -/
def fil {α : Type} (n : Nat) (f : Nat → α) (z : α) (k : Nat) : List α := (List.range n).map fun i => if i < k then f i else z
theorem fil_len {α : Type} (n : Nat) (f : Nat → α) (z : α) (k : Nat) : (fil n f z k).length = n := by simp [fil]
theorem fil_zero {α : Type} (n : Nat) (f : Nat → α) (z : α) : fil n f z 0 = List.replicate n z := by
  refine List.ext_getElem (by simp [fil]) fun i h1 h2 => ?_
  simp [fil]
theorem fil_all {α : Type} (n : Nat) (f : Nat → α) (z : α) : fil n f z n = (List.range n).map f := by
  refine List.map_congr_left fun i hi => ?_
  rw [if_pos (List.mem_range.1 hi)]
theorem fil_set {α : Type} {n : Nat} (f : Nat → α) (z : α) {k : Nat} (hk : k < n) : (fil n f z k).set k (f k) = fil n f z (k + 1) := by
  refine List.ext_getElem (by simp [fil]) fun i h1 h2 => ?_
  rw [List.getElem_set]
  by_cases e : k = i
  · subst e
    simp [fil]
  · rw [if_neg e]
    simp only [fil, List.getElem_map, List.getElem_range]
    by_cases h : i < k
    · rw [if_pos h, if_pos (by omega)]
    · rw [if_neg h, if_neg (by omega)]
/-- What stays while row g is written: everything else that was there. -/
structure Kg (w0 : World) (g n : Nat) (W : World) : Prop where
  lt : g < w0.heap.size
  row : ∃ l : List Value, l.length = n ∧ VAt W g l
  oth : ∀ p : Addr, p.block < w0.heap.size → p.block ≠ g → W.cell? p = w0.cell? p
  size : w0.heap.size ≤ W.heap.size
theorem Kg.start {w : World} {g n : Nat} {l : List Value} (hg : g < w.heap.size) (h : VAt w g l) (hn : l.length = n) : Kg w g n w := ⟨hg, ⟨l, hn, h⟩, fun _ _ _ => rfl, Nat.le_refl _⟩
theorem Kg.drew {w0 W : World} {g n : Nat} (h : Kg w0 g n W) : Kg w0 g n W.drew := ⟨h.lt, h.row, h.oth, h.size⟩
theorem Kg.drewN {w0 W : World} {g n : Nat} (h : Kg w0 g n W) (m : Nat) : Kg w0 g n (W.drewN m) := ⟨h.lt, h.row, h.oth, h.size⟩
theorem Kg.call {w0 W W' : World} {g n : Nat} (h : Kg w0 g n W) (k : Below W.heap.size W W') : Kg w0 g n W' := by
  obtain ⟨l, h1, h2⟩ := h.row
  have hs := h.size
  have hl := h.lt
  refine ⟨h.lt, ⟨l, h1, h2.below k (by omega)⟩, fun p hp hne => ?_, Nat.le_trans hs k.size⟩
  rw [k.cell (p := p) (by omega)]
  exact h.oth p hp hne
theorem Kg.set {w0 W : World} {g n : Nat} (h : Kg w0 g n W) {k : Nat} (hk : k < n) (v : Value) : Kg w0 g n (W.setCell ⟨g, k, none⟩ v) := by
  obtain ⟨l, h1, h2⟩ := h.row
  refine ⟨h.lt, ⟨l.set k v, by rw [List.length_set]; exact h1, h2.set (by omega) v⟩, fun p hp hne => ?_, by simpa using h.size⟩
  rw [World.cell?_setCell_other _ _ _ _ (fun e => hne (by rw [← e]))]
  exact h.oth p hp hne
def valOr (W : World) (g k : Nat) : Value := (W.cell? ⟨g, k, none⟩).getD (.bool false)
theorem Kg.has {w0 W : World} {g n : Nat} (h : Kg w0 g n W) {k : Nat} (hk : k < n) : W.cell? ⟨g, k, none⟩ = some (valOr W g k) ∧ W.frozen? ⟨g, k, none⟩ = false := by
  obtain ⟨l, h1, h2⟩ := h.row
  have := h2 k (by omega)
  exact ⟨by unfold valOr; rw [this.1]; rfl, this.2⟩
theorem rd_far {w W : World} {A : Option Addr} {vs : List Value} (h : Rd w A vs) (hk : ∀ p : Addr, p.block < w.heap.size → W.cell? p = w.cell? p) (hs : w.heap.size ≤ W.heap.size) : Rd W A vs := fun j hj => by
  obtain ⟨b, o, e, hb, hc⟩ := h j hj
  exact ⟨b, o, e, Nat.lt_of_lt_of_le hb hs, (hk ⟨b, o + j, none⟩ hb).trans hc⟩
theorem Kg.far {w w0 W : World} {g n : Nat} (h : Kg w0 g n W) (hb : Below w.heap.size w w0) (hg : w.heap.size ≤ g) : ∀ p : Addr, p.block < w.heap.size → W.cell? p = w.cell? p := fun p hp => by
  rw [h.oth p (Nat.lt_of_lt_of_le hp hb.size) (by omega)]
  exact hb.cell (p := p) hp
theorem IsRaw.kg {w w0 W : World} {g n m : Nat} {A : Option Addr} {cap : Nat} {l : List Rw} (h : IsRaw w A m cap l) (k : Kg w0 g n W) (hb : Below w.heap.size w w0) (hg : w.heap.size ≤ g) : IsRaw W A m cap l :=
  ⟨h.len, h.le, h.capm, h.nil, rd_far h.rd (k.far hb hg) (Nat.le_trans hb.size k.size)⟩
theorem IsBs.kg {w w0 W : World} {g n m : Nat} {A : Option Addr} {cap : Nat} {l : List (List R)} (h : IsBs w A m cap l) (k : Kg w0 g n W) (hb : Below w.heap.size w w0) (hg : w.heap.size ≤ g) : IsBs W A m cap l :=
  ⟨h.len, h.le, h.capm, h.nil, rd_far h.rd (k.far hb hg) (Nat.le_trans hb.size k.size)⟩
end Go.Proofs.Ytcfoclmkhippoaa.E15
