/- Slices of structs in memory, cell by cell. No program is named here. -/
import Derived.Test.YtpnnkdgoaeibbaaDoorMem
import Derived.ChangeReads
import Derived.OpenShut
import Derived.WalkKit
import Derived.ProofKit
import Derived.Deep.Slices
namespace Go.Proofs.YtpnnkdgoaeibbaaDoor.S14
open Go.RowKit Mem
set_option linter.unusedVariables false
set_option linter.unusedSimpArgs false

theorem add_none (b o k : Nat) : (⟨b, o, none⟩ : Addr).add k = ⟨b, o + k, none⟩ := by
  by_cases h : k = 0
  · subst h; rfl
  · simp [Addr.add, h]
theorem rd_each {α : Type} {w : World} {base b o s : Nat} {enc : α → List Value} {p : α → Prop} (hs : 0 < s) (hl : ∀ x, (enc x).length = s) : ∀ n, (∀ i, i < n → ∃ x, p x ∧ w.cells? base ((⟨b, o, none⟩ : Addr).add (i * s)) s = some (enc x)) →
    ∃ l : List α, l.length = n ∧ (∀ x ∈ l, p x) ∧ Rd w (some ⟨b, o, none⟩) (l.flatMap enc)
  | 0, _ => ⟨[], rfl, fun x h => (by cases h), fun j h => (by simp at h)⟩
  | n + 1, h => by
    obtain ⟨l, h1, h2, h3⟩ := rd_each hs hl n fun i hi => h i (by omega)
    obtain ⟨x, hx, hc⟩ := h n (by omega)
    have hlen : (l.flatMap enc).length = n * s := by
      rw [← h1]
      clear h1 h2 h3 hc
      induction l with
      | nil => simp
      | cons y l ih => rw [List.flatMap_cons, List.length_append, hl, ih, List.length_cons, Nat.succ_mul]; omega
    refine ⟨l ++ [x], by rw [List.length_append, h1]; rfl, fun y hy => ?_, fun j hj => ?_⟩
    · rcases List.mem_append.1 hy with hy | hy
      · exact h2 y hy
      · rw [List.mem_singleton.1 hy]; exact hx
    · have e : (l ++ [x]).flatMap enc = l.flatMap enc ++ enc x := by simp
      have hj2 := hj
      rw [e, List.length_append, hlen, hl] at hj2
      obtain ⟨_, _, hcell⟩ := World.cells?_some hc
      have hb0 := hcell 0 hs
      rw [add_none, add_none, List.getElem?_eq_getElem (by rw [hl]; exact hs)] at hb0
      refine ⟨b, o, rfl, World.block_lt_of_cell? _ _ hb0, ?_⟩
      have e2 : ((l ++ [x]).flatMap enc)[j]? = (l.flatMap enc ++ enc x)[j]? := by rw [e]
      rw [List.getElem?_eq_getElem hj] at e2
      rw [e2]
      by_cases hjn : j < n * s
      · obtain ⟨b', o', e', _, h4⟩ := h3 j (by rw [hlen]; exact hjn)
        injection e' with e'
        injection e' with e5 e6
        subst e5 e6
        rw [h4, List.getElem?_append_left (by rw [hlen]; exact hjn), List.getElem?_eq_getElem (by rw [hlen]; exact hjn)]
      · have := hcell (j - n * s) (by omega)
        rw [add_none, add_none, show o + n * s + (j - n * s) = o + j by omega] at this
        rw [this, List.getElem?_append_right (by rw [hlen]; omega), hlen]
theorem rd_slice {α : Type} {w : World} {base s n : Nat} {a : Addr} {enc : α → List Value} {p : α → Prop} (hs : 0 < s) (hl : ∀ x, (enc x).length = s) (h : ∀ i, i < n → ∃ x, p x ∧ w.cells? base (a.add (i * s)) s = some (enc x)) :
    ∃ l : List α, l.length = n ∧ (∀ x ∈ l, p x) ∧ Rd w (some a) (l.flatMap enc) := by
  rcases Nat.eq_zero_or_pos n with rfl | hn
  · exact ⟨[], rfl, fun x h => (by cases h), fun j h => (by simp at h)⟩
  · obtain ⟨b, o, spot⟩ := a
    obtain ⟨x, _, hc⟩ := h 0 hn
    obtain ⟨_, _, hcell⟩ := World.cells?_some hc
    have h0 := hcell 0 hs
    rw [Nat.zero_mul, List.getElem?_eq_getElem (by rw [hl]; exact hs)] at h0
    have hspot : spot = none := by simpa [Addr.add] using World.cell?_spot h0
    subst hspot
    exact rd_each hs hl n h
/-- The cells of the struct i of a slice. -/
theorem flat_get {α : Type} {s : Nat} {enc : α → List Value} (hl : ∀ x, (enc x).length = s) : ∀ (l : List α) (i j : Nat) (hi : i < l.length), j < s → (l.flatMap enc)[i * s + j]? = (enc l[i])[j]?
  | x :: l, 0, j, _, hj => by
    rw [List.flatMap_cons, Nat.zero_mul, Nat.zero_add, List.getElem?_append_left (by rw [hl]; exact hj)]
    rfl
  | x :: l, i + 1, j, hi, hj => by
    have := flat_get hl l i j (by simpa using hi) hj
    rw [List.flatMap_cons, List.getElem?_append_right (by rw [hl, Nat.succ_mul]; omega), hl, show (i + 1) * s + j - s = i * s + j by rw [Nat.succ_mul]; omega, this]
    rfl
theorem flat_len {α : Type} {s : Nat} {enc : α → List Value} (hl : ∀ x, (enc x).length = s) : ∀ l : List α, (l.flatMap enc).length = l.length * s
  | [] => by simp
  | x :: l => by rw [List.flatMap_cons, List.length_append, hl, flat_len hl l, List.length_cons, Nat.succ_mul]; omega
/-- One struct of a slice, read. -/
theorem Rd.struct {α : Type} {s : Nat} {enc : α → List Value} (hl : ∀ x, (enc x).length = s) {w : World} {A : Option Addr} {l : List α} (h : Rd w A (l.flatMap enc)) (hs : 0 < s) {i : Nat} (hi : i < l.length) :
    ∃ b o : Nat, A = some ⟨b, o, none⟩ ∧ b < w.heap.size ∧ ∀ (j : Nat) (u : Value), (enc l[i])[j]? = some u → w.cell? ⟨b, o + (i * s + j), none⟩ = some u := by
  have hlen := flat_len hl l
  have hlt : ∀ j, j < s → i * s + j < (l.flatMap enc).length := fun j hj => by
    rw [hlen]
    have : (i + 1) * s ≤ l.length * s := Nat.mul_le_mul_right s hi
    rw [Nat.succ_mul] at this
    omega
  obtain ⟨b, o, e, hb, _⟩ := h (i * s + 0) (hlt 0 hs)
  refine ⟨b, o, e, hb, fun j u hu => ?_⟩
  have hj : j < s := by
    have := (List.getElem?_eq_some_iff.1 hu).1
    rw [hl] at this
    exact this
  obtain ⟨b', o', e', _, hc⟩ := h (i * s + j) (hlt j hj)
  rw [e] at e'
  injection e' with e'
  injection e' with e5 e6
  subst e5 e6
  rw [hc]
  have := flat_get hl l i j hi hj
  rw [List.getElem?_eq_getElem (hlt j hj), hu] at this
  exact this
end Go.Proofs.YtpnnkdgoaeibbaaDoor.S14
