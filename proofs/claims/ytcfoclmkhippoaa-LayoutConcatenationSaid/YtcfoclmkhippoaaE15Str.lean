/- Plain facts for layer 15: stripes of blocks, byte by byte. No program is named here. -/
import Derived.Test.YtcfoclmkhippoaaE15Math
namespace Go.Proofs.Ytcfoclmkhippoaa.E15
open Go.Proofs.Ytcfoclmkhippoaa.G5
open Go.Proofs.Ytcfoclmkhippoaa.G6
set_option linter.unusedVariables false
set_option linter.unusedSimpArgs false

/-- The bytes of the blocks at an offset. -/
def col (bl : List (List R)) (i : Nat) : List R := bl.map fun b => b.getD i 0
theorem col_len (bl : List (List R)) (i : Nat) : (col bl i).length = bl.length := by simp [col]
theorem col_get (bl : List (List R)) (i k : Nat) : (col bl i).getD k 0 = (bl.getD k []).getD i 0 := by
  unfold col
  simp only [List.getD_eq_getElem?_getD, List.getElem?_map]
  cases h : bl[k]? with
  | none => simp
  | some b => simp
/-- The block at x of the stripe through the blocks bl at the points xl, n bytes long. -/
def blk (xl : List R) (bl : List (List R)) (n : Nat) (x : R) : List R := (List.range n).map fun i => lag xl (col bl i) x xl.length
theorem blk_len (xl : List R) (bl : List (List R)) (n : Nat) (x : R) : (blk xl bl n x).length = n := by simp [blk]
theorem blk_get (xl : List R) (bl : List (List R)) {n i : Nat} (x : R) (h : i < n) : (blk xl bl n x).getD i 0 = lag xl (col bl i) x xl.length := by
  simp [blk, List.getD_eq_getElem?_getD, h]
theorem list_eq {a b : List R} (hl : a.length = b.length) (h : ∀ i, i < a.length → a.getD i 0 = b.getD i 0) : a = b := by
  refine List.ext_getElem hl fun i h1 h2 => ?_
  have := h i h1
  simpa [List.getD_eq_getElem?_getD, h1, h2] using this
/-- At a point it is the point's block. -/
theorem blk_at {xl : List R} {bl : List (List R)} {n : Nat} (hn : xl.Nodup) (hb : bl.length = xl.length) {j : Nat} (hj : j < xl.length) (hs : (bl.getD j []).length = n) : blk xl bl n (xl.getD j 0) = bl.getD j [] := by
  refine list_eq (by rw [blk_len, hs]) fun i hi => ?_
  rw [blk_len] at hi
  rw [blk_get _ _ _ hi, lag_at hn hj, col_get]
/-- Recovery: blocks of one stripe at as many other points give the same stripe. -/
theorem blk_move {xl zl : List R} {bl vl : List (List R)} {n : Nat} (hn : xl.Nodup) (hm : zl.Nodup) (hl : zl.length = xl.length) (h : ∀ j, j < zl.length → vl.getD j [] = blk xl bl n (zl.getD j 0)) (x : R) : blk zl vl n x = blk xl bl n x := by
  refine list_eq (by rw [blk_len, blk_len]) fun i hi => ?_
  rw [blk_len] at hi
  rw [blk_get _ _ _ hi, blk_get _ _ _ hi]
  exact lag_move hn hm hl (fun j hj => by rw [col_get, h j hj, blk_get _ _ _ hi]) x
/-- Linearity. -/
theorem blk_xor {xl : List R} {a b c : List (List R)} {n : Nat} (h : ∀ j i, (c.getD j []).getD i 0 = (a.getD j []).getD i 0 ^^^ (b.getD j []).getD i 0) (x : R) {i : Nat} (hi : i < n) : (blk xl c n x).getD i 0 = (blk xl a n x).getD i 0 ^^^ (blk xl b n x).getD i 0 := by
  rw [blk_get _ _ _ hi, blk_get _ _ _ hi, blk_get _ _ _ hi]
  exact lag_xor xl _ _ _ x (fun j => by rw [col_get, col_get, col_get, h]) _
/-- Detection: if one more point lies on no polynomial through the points with one value changed, the two stripes differ there. -/
theorem blk_differ {xl : List R} {bl vl : List (List R)} {n k i : Nat} (hn : xl.Nodup) (hk : k < xl.length) (hi : i < n) (hne : (vl.getD k []).getD i 0 ≠ (bl.getD k []).getD i 0) (hsame : ∀ j, j ≠ k → (vl.getD j []).getD i 0 = (bl.getD j []).getD i 0) {z : R} (hz : z ∉ xl) : blk xl vl n z ≠ blk xl bl n z := fun e => by
  have e1 := congrArg (fun l => l.getD i 0) e
  replace e1 : (blk xl vl n z).getD i 0 = (blk xl bl n z).getD i 0 := e1
  rw [blk_get _ _ _ hi, blk_get _ _ _ hi] at e1
  obtain ⟨p, p1, p2⟩ := lag_poly xl (col vl i) xl.length (Nat.le_refl _)
  obtain ⟨q, q1, q2⟩ := lag_poly xl (col bl i) xl.length (Nat.le_refl _)
  rw [← p2, ← q2] at e1
  -- the points other than k, and z
  have hnd : (z :: xl.eraseIdx k).Nodup := by
    refine List.nodup_cons.2 ⟨fun h => hz (List.mem_of_mem_eraseIdx h), hn.sublist (List.eraseIdx_sublist _ _)⟩
  have hlen : (z :: xl.eraseIdx k).length = xl.length := by
    rw [List.length_cons, List.length_eraseIdx, if_pos hk]
    omega
  have hag := agree (xl := z :: xl.eraseIdx k) (p := p) (q := q) hnd (by omega) (by omega) (fun y hy => by
    rcases List.mem_cons.1 hy with rfl | hy
    · exact e1
    · obtain ⟨j, hj1, hjk, rfl⟩ := List.mem_eraseIdx_iff_getElem.1 hy
      have e2 : xl.getD j 0 = xl[j] := by simp [List.getD_eq_getElem?_getD, hj1]
      rw [← e2, p2, q2, lag_at hn hj1, lag_at hn hj1, col_get, col_get, hsame j hjk]) (xl.getD k 0)
  rw [p2, q2, lag_at hn hk, lag_at hn hk, col_get, col_get] at hag
  exact hne hag
end Go.Proofs.Ytcfoclmkhippoaa.E15
