/- Plain facts for layer 15: stripes as functions of the point; consistent shares; the first shares with different indices. No program is named here. -/
import Derived.Test.YtcfoclmkhippoaaE15Str
namespace Go.Proofs.Ytcfoclmkhippoaa.E15
open Go.Proofs.Ytcfoclmkhippoaa.G5
open Go.Proofs.Ytcfoclmkhippoaa.G6
set_option linter.unusedVariables false
set_option linter.unusedSimpArgs false

/-- A stripe of d data blocks of n bytes, as a function of the point. -/
def Stripe (T : R → List R) (d n : Nat) : Prop := ∃ P : Nat → List R, (∀ i, (P i).length ≤ d) ∧ ∀ x, T x = (List.range n).map fun i => ev (P i) x
theorem Stripe.len {T : R → List R} {d n : Nat} (h : Stripe T d n) (x : R) : (T x).length = n := by
  obtain ⟨P, _, h⟩ := h
  rw [h]
  simp
theorem Stripe.get {T : R → List R} {n : Nat} {P : Nat → List R} (h : ∀ x, T x = (List.range n).map fun i => ev (P i) x) (x : R) {i : Nat} (hi : i < n) : (T x).getD i 0 = ev (P i) x := by
  rw [h]
  simp [List.getD_eq_getElem?_getD, hi]
/-- Two stripes that agree at as many points as there are data blocks are the same. -/
theorem Stripe.only {T U : R → List R} {d n : Nat} (hT : Stripe T d n) (hU : Stripe U d n) {xl : List R} (hn : xl.Nodup) (hd : d ≤ xl.length) (h : ∀ x ∈ xl, T x = U x) (x : R) : T x = U x := by
  refine list_eq (by rw [hT.len, hU.len]) fun i hi => ?_
  rw [hT.len] at hi
  obtain ⟨P, p1, p2⟩ := hT
  obtain ⟨Q, q1, q2⟩ := hU
  rw [Stripe.get p2 x hi, Stripe.get q2 x hi]
  refine agree hn (Nat.le_trans (p1 i) hd) (Nat.le_trans (q1 i) hd) (fun y hy => ?_) x
  rw [← Stripe.get p2 y hi, ← Stripe.get q2 y hi, h y hy]
/-- The stripe through blocks at different points. -/
theorem blk_stripe (xl : List R) (bl : List (List R)) (n : Nat) : Stripe (blk xl bl n) xl.length n := by
  refine ⟨fun i => (lag_poly xl (col bl i) xl.length (Nat.le_refl _)).choose, fun i => (lag_poly xl (col bl i) xl.length (Nat.le_refl _)).choose_spec.1, fun x => ?_⟩
  unfold blk
  refine List.map_congr_left fun i _ => ?_
  exact ((lag_poly xl (col bl i) xl.length (Nat.le_refl _)).choose_spec.2 x).symm
/-- A stripe is the stripe through its blocks at as many different points as it has data blocks. -/
theorem Stripe.through {T : R → List R} {n : Nat} {xl : List R} {bl : List (List R)} (hT : Stripe T xl.length n) (hn : xl.Nodup) (hb : bl.length = xl.length) (h : ∀ j, j < xl.length → bl.getD j [] = T (xl.getD j 0)) (x : R) : blk xl bl n x = T x := by
  refine (blk_stripe xl bl n).only hT hn (Nat.le_refl _) (fun y hy => ?_) x
  obtain ⟨j, hj, rfl⟩ := List.mem_iff_getElem.1 hy
  have e : xl.getD j 0 = xl[j] := by simp [List.getD_eq_getElem?_getD, hj]
  rw [← e, blk_at hn hb hj (by rw [h j hj, hT.len]), h j hj]
/-- Shares: a number and a content. -/
abbrev Sh := R × List R
/-- The first shares with different numbers, at most d of them, behind those that are already there. -/
def firstF (d : Nat) : List Sh → List Sh → List Sh
  | acc, [] => acc
  | acc, s :: l => if acc.length < d then (if s.1 ∈ acc.map Prod.fst then firstF d acc l else firstF d (acc ++ [s]) l) else acc
/-- Shares all of one stripe. -/
def OnT (T : R → List R) (hv : List Sh) : Prop := ∀ s ∈ hv, s.2 = T s.1
structure FirstQ (d : Nat) (hv f : List Sh) : Prop where
  nodup : (f.map Prod.fst).Nodup
  sub : ∀ s ∈ f, s ∈ hv
  le : f.length ≤ d
  all : f.length < d → ∀ s ∈ hv, s.1 ∈ f.map Prod.fst
theorem first_from (d : Nat) : ∀ (l acc pre : List Sh), FirstQ d pre acc → FirstQ d (pre ++ l) (firstF d acc l)
  | [], acc, pre, h => by rw [List.append_nil]; exact h
  | s :: l, acc, pre, h => by
    show FirstQ d (pre ++ s :: l) (if acc.length < d then (if s.1 ∈ acc.map Prod.fst then firstF d acc l else firstF d (acc ++ [s]) l) else acc)
    rw [show pre ++ s :: l = (pre ++ [s]) ++ l by simp]
    by_cases hd : acc.length < d
    · rw [if_pos hd]
      by_cases hm : s.1 ∈ acc.map Prod.fst
      · rw [if_pos hm]
        refine first_from d l acc (pre ++ [s]) ⟨h.nodup, fun t ht => List.mem_append.2 (.inl (h.sub t ht)), h.le, fun hl t ht => ?_⟩
        rcases List.mem_append.1 ht with ht | ht
        · exact h.all hl t ht
        · rw [List.mem_singleton.1 ht]
          exact hm
      · rw [if_neg hm]
        refine first_from d l (acc ++ [s]) (pre ++ [s]) ⟨?_, fun t ht => ?_, by rw [List.length_append]; simp; omega, fun hl t ht => ?_⟩
        · rw [List.map_append, List.nodup_append]
          refine ⟨h.nodup, by simp, fun a ha b hb => ?_⟩
          rw [List.map_singleton, List.mem_singleton] at hb
          rw [hb]
          exact fun e => hm (e ▸ ha)
        · rcases List.mem_append.1 ht with ht | ht
          · exact List.mem_append.2 (.inl (h.sub t ht))
          · exact List.mem_append.2 (.inr ht)
        · rw [List.length_append] at hl
          simp at hl
          rw [List.map_append]
          rcases List.mem_append.1 ht with ht | ht
          · exact List.mem_append.2 (.inl (h.all (by omega) t ht))
          · rw [List.mem_singleton.1 ht]
            exact List.mem_append.2 (.inr (by simp))
    · rw [if_neg hd]
      refine ⟨h.nodup, fun t ht => List.mem_append.2 (.inl (List.mem_append.2 (.inl (h.sub t ht)))), h.le, fun hl => absurd hl hd⟩
theorem first_ok (d : Nat) (hv : List Sh) : FirstQ d hv (firstF d [] hv) := by
  have h := first_from d hv [] [] ⟨by simp, fun s h => (by cases h), Nat.zero_le _, fun _ s h => (by cases h)⟩
  simpa using h
/-- Shares with at least d different numbers lie on one stripe at most. -/
theorem on_only {T U : R → List R} {d n : Nat} {hv f : List Sh} (hT : Stripe T d n) (hU : Stripe U d n) (h1 : OnT T hv) (h2 : OnT U hv) (hf : FirstQ d hv f) (hd : f.length = d) (x : R) : T x = U x := by
  refine hT.only hU hf.nodup (by rw [List.length_map, hd]; exact Nat.le_refl _) (fun y hy => ?_) x
  obtain ⟨s, hs, rfl⟩ := List.mem_map.1 hy
  rw [← h1 s (hf.sub s hs), ← h2 s (hf.sub s hs)]
end Go.Proofs.Ytcfoclmkhippoaa.E15
