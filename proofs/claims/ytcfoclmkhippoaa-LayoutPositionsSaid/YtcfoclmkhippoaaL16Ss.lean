/- Lists of stripes in memory. No walk here. -/
import Derived.Test.YtcfoclmkhippoaaL16Mem
import Derived.Test.YtcfoclmkhippoaaE15Mk
import Derived.Test.YtcfoclmkhippoaaE15Con
import Derived.Lib.Repeat
namespace Go.Proofs.Ytcfoclmkhippoaa.L16
set_option maxRecDepth 100000
open Go.RowKit Mem
open Go.Proofs.Ytcfoclmkhippoaa.G5 Go.Proofs.Ytcfoclmkhippoaa.G7 Go.Proofs.Ytcfoclmkhippoaa.E15
set_option linter.unusedVariables false
set_option linter.unusedSimpArgs false

/-- A value that is a slice of these blocks. -/
def SlB (w : World) (v : Value) (S : List (List R)) : Prop := ∃ A c, v = .slice A S.length c ∧ IsBs w A S.length c S
theorem SlB.below {w w1 : World} {v : Value} {S : List (List R)} (h : SlB w v S) (k : Below w.heap.size w w1) : SlB w1 v S := by
  obtain ⟨A, c, e, hB⟩ := h
  exact ⟨A, c, e, hB.below k⟩
theorem SlB.of_own {w : World} {base n : Nat} {e : TypeId} {v : Value} {S : List (List R)} (h : w.ownsRow base e 1 v n (bs S)) : SlB w v S := by
  obtain ⟨hl, A, c, e, hB⟩ := IsBs.of_own h
  subst hl
  exact ⟨A, c, e, hB⟩
/-- Values that are slices of these stripes' blocks. -/
structure SsV (w : World) (vs : List Value) (L : List (List (List R))) : Prop where
  len : vs.length = L.length
  get : ∀ i (h1 : i < vs.length) (h2 : i < L.length), SlB w vs[i] L[i]
theorem SsV.nil (w : World) : SsV w [] [] := ⟨rfl, fun i h _ => by simp at h⟩
theorem SsV.below {w w1 : World} {vs : List Value} {L : List (List (List R))} (h : SsV w vs L) (k : Below w.heap.size w w1) : SsV w1 vs L := ⟨h.len, fun i h1 h2 => (h.get i h1 h2).below k⟩
theorem SsV.drewN {w : World} {vs : List Value} {L : List (List (List R))} (h : SsV w vs L) (n : Nat) : SsV (w.drewN n) vs L := h.below (chainN (Below.refl _ _) n)
theorem SsV.snoc {w : World} {vs : List Value} {L : List (List (List R))} (h : SsV w vs L) {v : Value} {S : List (List R)} (hv : SlB w v S) : SsV w (vs ++ [v]) (L ++ [S]) := by
  refine ⟨by rw [List.length_append, List.length_append, h.len]; rfl, fun i h1 h2 => ?_⟩
  have hl := h.len
  rw [List.length_append] at h1
  by_cases e : i < vs.length
  · rw [List.getElem_append_left e, List.getElem_append_left (by omega)]
    exact h.get i e (by omega)
  · have e1 : i = vs.length := by simp at h1; omega
    subst e1
    have a1 : (vs ++ [v])[vs.length]'(by simp) = v := by simp
    have a2 : (L ++ [S])[vs.length]'(by simp [hl]) = S := by simp [hl]
    rw [a1, a2]
    exact hv
theorem SsV.app {w : World} {vs us : List Value} {L M : List (List (List R))} (h : SsV w vs L) (g : SsV w us M) : SsV w (vs ++ us) (L ++ M) := by
  refine ⟨by rw [List.length_append, List.length_append, h.len, g.len], fun i h1 h2 => ?_⟩
  have hl := h.len
  rw [List.length_append] at h1
  by_cases e : i < vs.length
  · rw [List.getElem_append_left e, List.getElem_append_left (by omega)]
    exact h.get i e (by omega)
  · rw [List.getElem_append_right (by omega), List.getElem_append_right (by omega)]
    have := g.get (i - vs.length) (by omega) (by rw [← g.len]; omega)
    simpa only [hl] using this
theorem SsV.one {w : World} {vs : List Value} {L : List (List (List R))} (h : SsV w vs L) : ∀ u ∈ vs, u.oneCell' = true := fun u hu => by
  obtain ⟨i, hi, rfl⟩ := List.getElem_of_mem hu
  obtain ⟨A, c, e, _⟩ := h.get i hi (by rw [← h.len]; exact hi)
  rw [e]
  rfl
/-- The same, each a row of strings of its own. -/
structure SoV (w : World) (vs : List Value) (L : List (List (List R))) : Prop where
  len : vs.length = L.length
  get : ∀ i (h1 : i < vs.length) (h2 : i < L.length), w.ownsRow 0 9 1 vs[i] L[i].length (bs L[i])
theorem SoV.nil (w : World) : SoV w [] [] := ⟨rfl, fun i h _ => by simp at h⟩
theorem SoV.ss {w : World} {vs : List Value} {L : List (List (List R))} (h : SoV w vs L) : SsV w vs L := ⟨h.len, fun i h1 h2 => SlB.of_own (h.get i h1 h2)⟩
theorem SoV.snoc {w : World} {vs : List Value} {L : List (List (List R))} (h : SoV w vs L) {v : Value} {S : List (List R)} (hv : w.ownsRow 0 9 1 v S.length (bs S)) : SoV w (vs ++ [v]) (L ++ [S]) := by
  refine ⟨by rw [List.length_append, List.length_append, h.len]; rfl, fun i h1 h2 => ?_⟩
  have hl := h.len
  rw [List.length_append] at h1
  by_cases e : i < vs.length
  · have a1 : (vs ++ [v])[i]'(by rw [List.length_append]; omega) = vs[i] := List.getElem_append_left e
    have a2 : (L ++ [S])[i]'h2 = L[i]'(by omega) := List.getElem_append_left (by omega)
    simp only [a1, a2]
    exact h.get i e (by omega)
  · have e1 : i = vs.length := by simp at h1; omega
    subst e1
    have a1 : (vs ++ [v])[vs.length]'(by simp) = v := by simp
    have a2 : (L ++ [S])[vs.length]'(by simp [hl]) = S := by simp [hl]
    simp only [a1, a2]
    exact hv
theorem SoV.kept {w w1 : World} {vs : List Value} {L : List (List (List R))} {row : Option Nat} (h : SoV w vs L) (hg : w.grownBy w1 row) (hrow : ∀ r, row = some r → ∃ o : Obj, w.heap[r]? = some o ∧ ∀ cs fz, o ≠ .cells cs 9 fz) : SoV w1 vs L := by
  refine ⟨h.len, fun i h1 h2 => (h.get i h1 h2).kept hg ?_⟩
  rcases (h.get i h1 h2).2 with ⟨e, _⟩ | ⟨g, cap, cur, e, _, hh, _⟩
  · exact .inl (by rw [e]; rfl)
  · refine .inr fun e' => ?_
    rw [e] at e'
    obtain ⟨o, ho, hne⟩ := hrow g e'.symm
    rw [hh] at ho
    injection ho with ho
    exact hne _ _ ho.symm
/-- A slice of stripes. -/
structure IsSS (w : World) (A : Option Addr) (n cap : Nat) (L : List (List (List R))) : Prop where
  len : L.length = n
  le : n ≤ cap
  capm : cap ≤ maxLen
  nil : A = none → cap = 0
  rd : ∃ vs, SsV w vs L ∧ Rd w A vs
theorem IsSS.below {w w1 : World} {A : Option Addr} {n cap : Nat} {L : List (List (List R))} (h : IsSS w A n cap L) (k : Below w.heap.size w w1) : IsSS w1 A n cap L := by
  obtain ⟨vs, h1, h2⟩ := h.rd
  exact ⟨h.len, h.le, h.capm, h.nil, vs, h1.below k, h2.below k⟩
theorem IsSS.zero (w : World) : IsSS w none 0 0 [] := ⟨rfl, Nat.le_refl _, by decide, fun _ => rfl, [], SsV.nil w, fun j h => (by simp at h)⟩
theorem IsSS.of_own {w : World} {base n : Nat} {e : TypeId} {v : Value} {vs : List Value} {L : List (List (List R))} (h : w.ownsRow base e 1 v n vs) (hL : SsV w vs L) : L.length = n ∧ ∃ A cap, v = .slice A n cap ∧ IsSS w A n cap L := by
  have hl : L.length = n := by have := h.1; have := hL.len; omega
  obtain ⟨A, cap, h1, h2, h3, h4, h5⟩ := rd_own h
  exact ⟨hl, A, cap, h1, hl, h2, h3, h4, vs, hL, h5⟩
theorem IsSS.get {w : World} {A : Option Addr} {n cap : Nat} {L : List (List (List R))} (h : IsSS w A n cap L) {k : Nat} (hk : k < L.length) : ∃ (b o : Nat) (A' : Option Addr) (c' : Nat), A = some ⟨b, o, none⟩ ∧ b < w.heap.size ∧ w.cell? ⟨b, o + k, none⟩ = some (.slice A' L[k].length c') ∧ IsBs w A' L[k].length c' L[k] := by
  obtain ⟨vs, h1, h2⟩ := h.rd
  have hl : k < vs.length := by rw [h1.len]; exact hk
  obtain ⟨b, o, e, hb, hc⟩ := h2 k hl
  obtain ⟨A', c', e', hB⟩ := h1.get k hl hk
  exact ⟨b, o, A', c', e, hb, by rw [hc, e'], hB⟩
theorem str_zeros (n : Nat) : (⟨(Lib.repeatL (ByteArray.mk #[0]).data.toList n).toArray⟩ : ByteArray) = str (List.replicate n 0) := by
  have h : Lib.repeatL (ByteArray.mk #[0]).data.toList n = G6.u8s (List.replicate n 0) := by
    induction n with
    | zero => rfl
    | succ n ih =>
      show [0] ++ Lib.repeatL (ByteArray.mk #[0]).data.toList n = _
      rw [ih]
      rfl
  rw [h]
  rfl
theorem info_strs : (Try.prog.info? 39).map (fun i => (i.zero, i.size, i.bytes)) = some (some (.slice none 0 0), 1, 24) := by kernel_rfl
/-- make([]string, n), a row of the call's own. -/
theorem make_own (w : World) (n : Nat) (hn : n ≤ 1000) : ∃ W, (Instr.makeSlice 39 (.int .i64 (n : Int)) (.int .i64 (n : Int))).run Try.prog w = .ok (.slice (some ⟨w.heap.size, 0, none⟩) n n) W ∧ W.ownsRow w.heap.size 9 1 (.slice (some ⟨w.heap.size, 0, none⟩) n n) n (bs (List.replicate n [])) ∧ Below w.heap.size w W := by
  obtain ⟨i0, hi, hz0, hz1, hz2⟩ := info_parts info_str
  obtain ⟨W, h1, h2, h3⟩ := run_make_full (P := Try.prog) w w.heap.size 39 9 i0 _ 1 Try.underlying39 hi hz0 hz1 .i64 .i64 n (by rw [hz2]; omega) (by unfold maxLen; omega) (Nat.le_refl _)
  refine ⟨W, h1, ?_, below_none h3⟩
  rw [Nat.mul_one, show (Value.string ⟨#[]⟩).cells = #[.string ⟨#[]⟩] from rfl, toList_madeCells_one] at h2
  rwa [show bs (List.replicate n []) = List.replicate n (.string ⟨#[]⟩) by unfold bs; rw [List.map_replicate]; rfl]
/-- What Stripes leaves behind. -/
def StsP (D S : Int) (x : List R) (w : World) (e : Ending) (w' : World) : Prop := ∃ (k : Int) (L : List (List (List R))) (A : Option Addr) (c : Nat), StsQ D S x k L ∧ e = .returned (.tuple #[.slice A L.length c, .int .i64 k]) ∧ IsSS w' A L.length c L ∧ Below w.heap.size w w'
theorem StsP.bad {D S : Int} {x : List R} {w w' : World} (h : ¬ Lok D S) (hb : Below w.heap.size w w') : StsP D S x w (.returned (.tuple #[.slice none 0 0, .int .i64 2])) w' :=
  ⟨2, [], none, 0, ⟨Or.inr rfl, fun h => absurd h (by decide), fun _ => ⟨h, rfl⟩⟩, rfl, IsSS.zero _, hb⟩
theorem StsP.good {D S : Nat} {x : List R} {w w' : World} {base n : Nat} {e : TypeId} {v : Value} {vs : List Value} (h : Lok D S) (hr : w'.ownsRow base e 1 v n vs) (hv : SsV w' vs (sts D S x)) (hb : Below w.heap.size w w') : StsP D S x w (.returned (.tuple #[v, .int .i64 0])) w' := by
  obtain ⟨hl, A, c, rfl, hI⟩ := IsSS.of_own hr hv
  exact ⟨0, _, A, c, ⟨Or.inl rfl, fun _ => ⟨h, rfl⟩, fun h => absurd h (by decide)⟩, by simp only [Int.toNat_natCast, hl], by simp only [Int.toNat_natCast, hl]; exact hI, hb⟩
end Go.Proofs.Ytcfoclmkhippoaa.L16
