/- Facts and contracts that the walks of this layer use, merged: G8Key, G8Ref1, G8App. -/
import Derived.Test.YtiodkllckcpinaaGreatDoorM14AL
import Derived.Test.YtiodkllckcpinaaGreatDoorM14AI
import Derived.Test.YtiodkllckcpinaaGreatDoorM14AK
import Derived.Deep.RegionHeld3
import Derived.Laws.AppendOwn
import Derived.Test.YtiodkllckcpinaaGreatDoorM14AA
import Derived.Deep.AppendLies
set_option linter.unusedVariables false
set_option linter.unusedSimpArgs false
set_option maxRecDepth 100000
namespace Go.Proofs.YtiodkllckcpinaaGreatDoor
namespace G8
open G5
open G7
open G6 (xz zx tac tms_ne one_ne rs rs_len VAt.setR VAt.readR)
open Go.RowKit Mem

/-! ### sums -/
theorem sr_add (f g : Nat → R) : ∀ ms : List Nat, sr ms (fun k => f k ^^^ g k) = sr ms f ^^^ sr ms g
 | [] => by show (0 : R) = 0 ^^^ 0; rw [xs]
 | m :: ms => by
  show (f m ^^^ g m) ^^^ sr ms (fun k => f k ^^^ g k) = (f m ^^^ sr ms f) ^^^ (g m ^^^ sr ms g)
  rw [sr_add f g ms, xor4r]
theorem sr_zero {f : Nat → R} (ms : List Nat) (h : ∀ m ∈ ms, f m = 0) : sr ms f = 0 := by
 induction ms with
 | nil => rfl
 | cons m ms ih =>
  show f m ^^^ sr ms f = 0
  rw [h m (by simp), ih fun k hk => h k (by simp [hk]), xs]
theorem sr_pick (N a : Nat) (v : R) : sr (List.range N) (fun k => if k = a then v else 0) = if a < N then v else 0 := by
 induction N with
 | zero => rfl
 | succ N ih =>
  rw [List.range_succ, sr_app, ih]
  show _ ^^^ ((if N = a then v else 0) ^^^ 0) = _
  rw [xz]
  by_cases h : N = a
  ·subst h
   rw [if_neg (by omega), if_pos rfl, if_pos (by omega), zx]
  ·rw [if_neg h, xz]
   by_cases h2 : a < N
   ·rw [if_pos h2, if_pos (by omega)]
   ·rw [if_neg h2, if_neg (by omega)]

/-! ### systems of equations -/
def dot (n : Nat) (r y : Nat → R) : R := sr (List.range (n + 1)) fun k => tms (r k) (y k)
theorem dot_congr {n : Nat} {r r' y : Nat → R} (h : ∀ k, k ≤ n → r k = r' k) : dot n r y = dot n r' y :=
 sr_congr _ fun k hk => by rw [h k (by have := List.mem_range.1 hk; omega)]
theorem dot_add (n : Nat) (r s y : Nat → R) : dot n (fun k => r k ^^^ s k) y = dot n r y ^^^ dot n s y := by
 unfold dot
 rw [← sr_add]
 exact sr_congr _ fun k _ => tms_a _ _ _
theorem dot_sc (n : Nat) (c : R) (r y : Nat → R) : dot n (fun k => tms (r k) c) y = tms (dot n r y) c := by
 unfold dot
 rw [← sr_mul]
 exact sr_congr _ fun k _ => by simp only [tms_assoc, tms_comm, tac]
def Kern (m n : Nat) (M : Nat → Nat → R) (y : Nat → R) : Prop := ∀ r, r < m → dot n (M r) y = 0
structure Uq (m n : Nat) (M : Nat → Nat → R) (y0 : Nat → R) : Prop where
 sol : Kern m n M y0
 one : y0 n = 1
 uniq : ∀ y, Kern m n M y → y n = 0 → ∀ k, k < n → y k = 0
structure GI (m n i : Nat) (M0 M : Nat → Nat → R) : Prop where
 unit : ∀ k r, k < i → r < m → M r k = if r = k then 1 else 0
 ker : ∀ y, Kern m n M y ↔ Kern m n M0 y
theorem GI.start (m n : Nat) (M : Nat → Nat → R) : GI m n 0 M M := ⟨fun k r h => by omega, fun y => Iff.rfl⟩
theorem GI.pivot {m n i : Nat} {M0 M : Nat → Nat → R} {y0 : Nat → R} (h : GI m n i M0 M) (hi : i < n) (hu : Uq m n M0 y0) (hz : ∀ r, i ≤ r → r < m → M r i = 0) : False := by
 obtain ⟨y, hy⟩ : ∃ y : Nat → R, ∀ k, y k = (if k < i ∧ k < m then M k i else 0) ^^^ (if k = i then 1 else 0) := ⟨_, fun _ => rfl⟩
 have key := hu.uniq y ((h.ker _).1 fun r hr => ?_) (by rw [hy, if_neg (by omega), if_neg (by omega), xs]) i hi
 ·rw [hy, if_neg (by omega), if_pos rfl, zx] at key
  exact one_ne key
 ·have e : dot n (M r) y = sr (List.range (n + 1)) fun k => (if k = r then (if r < i then M r i else 0) else 0) ^^^ (if k = i then M r i else 0) := by
   refine sr_congr _ fun k hk => ?_
   have hk := List.mem_range.1 hk
   rw [hy]
   by_cases e1 : k = i
   ·subst e1
    rw [if_neg (by omega), if_pos rfl, if_pos rfl, zx, tms_one]
    by_cases e2 : k = r
    ·subst e2
     rw [if_pos rfl, if_neg (by omega), zx]
    ·rw [if_neg e2, zx]
   ·rw [if_neg e1, if_neg e1, xz, xz]
    by_cases e2 : k < i
    ·rw [h.unit k r e2 hr]
     by_cases e3 : r = k
     ·subst e3
      rw [if_pos rfl, if_pos rfl, if_pos e2, if_pos ⟨e2, hr⟩, one_tms]
     ·rw [if_neg e3, zero_tms, if_neg (fun e => e3 e.symm)]
    ·rw [if_neg (by omega), tms_zero]
     by_cases e3 : k = r
     ·rw [if_pos e3, if_neg (by omega)]
     ·rw [if_neg e3]
  rw [e, sr_add, sr_pick, sr_pick, if_pos (show i < n + 1 by omega)]
  by_cases e2 : r < i
  ·rw [if_pos (by omega), if_pos e2, xs]
  ·rw [if_neg e2]
   have : M r i = 0 := hz r (by omega) hr
   rw [this]
   split <;> exact xs _
theorem GI.rows {m n : Nat} {M0 M : Nat → Nat → R} {y0 : Nat → R} (h : GI m n n M0 M) (hu : Uq m n M0 y0) {r : Nat} (hr : r < m) : M r n = if r < n then y0 r else 0 := by
 have hk := (h.ker y0).2 hu.sol r hr
 have e : dot n (M r) y0 = sr (List.range (n + 1)) fun k => (if k = r then (if r < n then y0 r else 0) else 0) ^^^ (if k = n then M r n else 0) := by
  refine sr_congr _ fun k hk => ?_
  have hk := List.mem_range.1 hk
  by_cases e1 : k = n
  ·subst e1
   rw [hu.one, tms_one, if_pos rfl]
   by_cases e2 : k = r
   ·subst e2
    rw [if_pos rfl, if_neg (by omega), zx]
   ·rw [if_neg e2, zx]
  ·rw [if_neg e1, xz, h.unit k r (by omega) hr]
   by_cases e3 : r = k
   ·subst e3
    rw [if_pos rfl, if_pos rfl, if_pos (by omega), one_tms]
   ·rw [if_neg e3, if_neg (fun e => e3 e.symm), zero_tms]
 rw [e, sr_add, sr_pick, sr_pick, if_pos (show n < n + 1 by omega)] at hk
 have hk := (xor_eq_zero hk).symm
 rw [hk]
 by_cases h2 : r < n
 ·rw [if_pos (by omega)]
 ·rw [if_neg h2]
  split <;> rfl

/-! ### the steps -/
def swM {α : Type} (f : Nat → α) (i a : Nat) : Nat → α := fun r => if r = i then f a else if r = a then f i else f r
def scM (M : Nat → Nat → R) (i : Nat) (c : R) (k0 : Nat) : Nat → Nat → R := fun r k => if r = i ∧ k < k0 then tms (M i k) c else M r k
def elM (M : Nat → Nat → R) (i j : Nat) (c : R) (k0 : Nat) : Nat → Nat → R := fun r k => if r = j ∧ k < k0 then M j k ^^^ tms c (M i k) else M r k
theorem Kern.swap {m n i a : Nat} {M : Nat → Nat → R} (hi : i < m) (ha : a < m) (y : Nat → R) : Kern m n (swM M i a) y ↔ Kern m n M y := by
 have one : ∀ M : Nat → Nat → R, Kern m n M y → Kern m n (swM M i a) y := fun M h r hr => by
  unfold swM
  split
  ·exact h a ha
  ·split
   ·exact h i hi
   ·exact h r hr
 refine ⟨fun h => ?_, one M⟩
 have := one _ h
 have e : swM (swM M i a) i a = M := by
  funext r
  unfold swM
  by_cases h1 : r = i
  ·subst h1
   rw [if_pos rfl]
   by_cases h2 : a = r
   ·subst h2; rw [if_pos rfl]
   ·rw [if_neg h2, if_pos rfl]
  ·rw [if_neg h1]
   by_cases h2 : r = a
   ·subst h2
    rw [if_pos rfl, if_pos rfl]
   ·rw [if_neg h2, if_neg h1, if_neg h2]
 rwa [e] at this
theorem Kern.scale {m n i : Nat} {M : Nat → Nat → R} {c : R} (hc : c ≠ 0) (y : Nat → R) : Kern m n (scM M i c (n + 1)) y ↔ Kern m n M y := by
 have e : ∀ r, dot n (scM M i c (n + 1) r) y = if r = i then tms (dot n (M r) y) c else dot n (M r) y := fun r => by
  by_cases h : r = i
  ·subst h
   rw [if_pos rfl, ← dot_sc]
   exact dot_congr fun k hk => by unfold scM; rw [if_pos ⟨rfl, by omega⟩]
  ·rw [if_neg h]
   exact dot_congr fun k hk => by unfold scM; rw [if_neg (by omega)]
 constructor
 ·intro h r hr
  have := h r hr
  rw [e] at this
  split at this
  ·exact (tms_eq_zero this).resolve_right hc
  ·exact this
 ·intro h r hr
  rw [e, h r hr]
  split
  ·exact zero_tms _
  ·rfl
theorem Kern.elim {m n i j : Nat} {M : Nat → Nat → R} {c : R} (hi : i < m) (hj : j < m) (hij : j ≠ i) (y : Nat → R) : Kern m n (elM M i j c (n + 1)) y ↔ Kern m n M y := by
 have e : ∀ r, dot n (elM M i j c (n + 1) r) y = if r = j then dot n (M j) y ^^^ tms (dot n (M i) y) c else dot n (M r) y := fun r => by
  by_cases h : r = j
  ·subst h
   rw [if_pos rfl, ← dot_sc, ← dot_add]
   exact dot_congr fun k hk => by unfold elM; rw [if_pos ⟨rfl, by omega⟩, tms_comm c]
  ·rw [if_neg h]
   exact dot_congr fun k hk => by unfold elM; rw [if_neg (by omega)]
 constructor
 ·intro h
  have hi0 : dot n (M i) y = 0 := by
   have := h i hi
   rwa [e, if_neg (fun e => hij e.symm)] at this
  intro r hr
  have := h r hr
  rw [e] at this
  split at this
  ·rename_i hrj
   rw [hi0, zero_tms, xz] at this
   rw [hrj]
   exact this
  ·exact this
 ·intro h r hr
  rw [e, h j hj, h i hi, h r hr, zero_tms, xs]
  split <;> rfl
theorem GI.swap {m n i a : Nat} {M0 M : Nat → Nat → R} (h : GI m n i M0 M) (hi : i ≤ a) (ha : a < m) : GI m n i M0 (swM M i a) := by
 refine ⟨fun k r hk hr => ?_, fun y => (Kern.swap (by omega) ha y).trans (h.ker y)⟩
 unfold swM
 by_cases h1 : r = i
 ·rw [if_pos h1, h.unit k a hk ha, if_neg (by omega), if_neg (by omega)]
 ·rw [if_neg h1]
  by_cases h2 : r = a
  ·rw [if_pos h2, h.unit k i hk (by omega), if_neg (by omega), if_neg (by omega)]
  ·rw [if_neg h2]
   exact h.unit k r hk hr
theorem GI.scale {m n i : Nat} {M0 M : Nat → Nat → R} {c : R} (h : GI m n i M0 M) (hc : c ≠ 0) (hi : i < m) : GI m n i M0 (scM M i c (n + 1)) := by
 refine ⟨fun k r hk hr => ?_, fun y => (Kern.scale hc y).trans (h.ker y)⟩
 unfold scM
 split
 ·rename_i h1
  rw [h.unit k i hk hi, if_neg (by omega), zero_tms, if_neg (by omega)]
 ·exact h.unit k r hk hr
structure EJ (m n i j : Nat) (M0 M : Nat → Nat → R) : Prop where
 gi : GI m n i M0 M
 piv : M i i = 1
 clr : ∀ r, r < j → r ≠ i → M r i = 0
theorem EJ.start {m n i : Nat} {M0 M : Nat → Nat → R} (h : GI m n i M0 M) (hi : i < m) (hin : i ≤ n) (hp : M i i ≠ 0) : EJ m n i 0 M0 (scM M i (iv (M i i)) (n + 1)) := by
 have hiv : iv (M i i) ≠ 0 := fun e => by
  have := tms_iv hp
  rw [e, tms_zero] at this
  exact one_ne this.symm
 refine ⟨h.scale hiv hi, ?_, fun r hr => by omega⟩
 unfold scM
 rw [if_pos ⟨rfl, by omega⟩, tms_iv hp]
theorem EJ.skip {m n i j : Nat} {M0 M : Nat → Nat → R} (h : EJ m n i j M0 M) (hz : j = i ∨ M j i = 0) : EJ m n i (j + 1) M0 M := by
 refine ⟨h.gi, h.piv, fun r hr hne => ?_⟩
 by_cases e : r = j
 ·subst e
  exact hz.resolve_left hne
 ·exact h.clr r (by omega) hne
theorem EJ.step {m n i j : Nat} {M0 M : Nat → Nat → R} (h : EJ m n i j M0 M) (hi : i < m) (hin : i ≤ n) (hj : j < m) (hij : j ≠ i) : EJ m n i (j + 1) M0 (elM M i j (M j i) (n + 1)) := by
 refine ⟨⟨fun k r hk hr => ?_, fun y => (Kern.elim hi hj hij y).trans (h.gi.ker y)⟩, ?_, fun r hr hne => ?_⟩
 ·unfold elM
  split
  ·rename_i h1
   rw [h.gi.unit k i hk hi, if_neg (by omega), tms_zero, xz, h.gi.unit k j hk hj]
   simp only [h1.1]
  ·exact h.gi.unit k r hk hr
 ·unfold elM
  rw [if_neg (by omega)]
  exact h.piv
 ·unfold elM
  by_cases e : r = j
  ·rw [if_pos ⟨e, by omega⟩, h.piv, tms_one, xs]
  ·rw [if_neg (by omega)]
   exact h.clr r (by omega) hne
theorem EJ.done {m n i : Nat} {M0 M : Nat → Nat → R} (h : EJ m n i m M0 M) : GI m n (i + 1) M0 M := by
 refine ⟨fun k r hk hr => ?_, h.gi.ker⟩
 by_cases e : k = i
 ·subst e
  by_cases e2 : r = k
  ·subst e2
   rw [if_pos rfl]
   exact h.piv
  ·rw [if_neg e2]
   exact h.clr r hr e2
 ·exact h.gi.unit k r (by omega) hr

/-! ### a matrix in memory -/
def mrow (g c : Nat → Nat) (W m : Nat) : List Value := (List.range m).map fun r => .slice (some ⟨g r, 0, none⟩) W (c r)
theorem mrow_len (g c : Nat → Nat) (W m : Nat) : (mrow g c W m).length = m := by simp [mrow]
theorem mrow_get (g c : Nat → Nat) (W m r : Nat) (h : r < (mrow g c W m).length) : (mrow g c W m)[r] = .slice (some ⟨g r, 0, none⟩) W (c r) := by simp [mrow]
structure Mat (w : World) (base G m W : Nat) (g c : Nat → Nat) (M : Nat → Nat → R) : Prop where
 top : VAt w G (mrow g c W m)
 lt : G < w.heap.size
 ge : base ≤ G
 row : ∀ r, r < m → VAt w (g r) (rs (tab W (M r)))
 rlt : ∀ r, r < m → g r < w.heap.size
 rge : ∀ r, r < m → base ≤ g r
 ne : ∀ r, r < m → g r ≠ G
 inj : ∀ r q, r < m → q < m → g r = g q → r = q
theorem Mat.cell {w : World} {base G m W : Nat} {g c : Nat → Nat} {M : Nat → Nat → R} (h : Mat w base G m W g c M) {r : Nat} (hr : r < m) : w.cell? ⟨G, r, none⟩ = some (.slice (some ⟨g r, 0, none⟩) W (c r)) ∧ w.frozen? ⟨G, r, none⟩ = false := by
 have := h.top r (by rw [mrow_len]; exact hr)
 rwa [mrow_get] at this
theorem Mat.elem {w : World} {base G m W : Nat} {g c : Nat → Nat} {M : Nat → Nat → R} (h : Mat w base G m W g c M) {r k : Nat} (hr : r < m) (hk : k < W) : w.cell? ⟨g r, k, none⟩ = some (bv (M r k)) ∧ w.frozen? ⟨g r, k, none⟩ = false := by
 have := VAt.readR (h.row r hr) (k := k) (by rw [tab_len]; exact hk)
 rwa [tab_get _ _ _ hk] at this
theorem Mat.congr {w : World} {base G m W : Nat} {g c : Nat → Nat} {M M' : Nat → Nat → R} (h : Mat w base G m W g c M) (e : ∀ r k, r < m → k < W → M r k = M' r k) : Mat w base G m W g c M' :=
 ⟨h.top, h.lt, h.ge, fun r hr => by rw [← tab_congr fun k hk => e r k hr hk]; exact h.row r hr, h.rlt, h.rge, h.ne, h.inj⟩
theorem Mat.set {w : World} {base G m W : Nat} {g c : Nat → Nat} {M M' : Nat → Nat → R} (h : Mat w base G m W g c M) {r k : Nat} (hr : r < m) (hk : k < W) (v : R) (e : ∀ r' k', r' < m → k' < W → M' r' k' = if r' = r ∧ k' = k then v else M r' k') :
  Mat (w.setCell ⟨g r, k, none⟩ (bv v)) base G m W g c M' := by
 refine ⟨VAt.far h.top (h.ne r hr) _, by simpa using h.lt, h.ge, fun r' hr' => ?_, fun r' hr' => by simpa using h.rlt r' hr', h.rge, h.ne, h.inj⟩
 by_cases e1 : r' = r
 ·subst e1
  have := VAt.setR (h.row r' hr') (k := k) (by rw [tab_len]; exact hk) v
  rw [tab_set _ _ _ _ hk] at this
  rw [show tab W (M' r') = tab W (fun m => if m = k then v else M r' m) from tab_congr fun k' hk' => by
   rw [e r' k' hr' hk']
   by_cases e2 : k' = k
   ·rw [if_pos ⟨rfl, e2⟩, if_pos e2]
   ·rw [if_neg (fun h => e2 h.2), if_neg e2]]
  exact this
 ·rw [show tab W (M' r') = tab W (M r') from tab_congr fun k' hk' => by rw [e r' k' hr' hk', if_neg (fun h => e1 h.1)]]
  exact VAt.far (h.row r' hr') (fun e => e1 (h.inj r' r hr' hr e.symm)) _
theorem Mat.swap {w : World} {base G m W : Nat} {g c : Nat → Nat} {M : Nat → Nat → R} (h : Mat w base G m W g c M) {i a : Nat} (hi : i < m) (ha : a < m) :
  Mat ((w.setCell ⟨G, i, none⟩ (.slice (some ⟨g a, 0, none⟩) W (c a))).setCell ⟨G, a, none⟩ (.slice (some ⟨g i, 0, none⟩) W (c i))) base G m W (swM g i a) (swM c i a) (swM M i a) := by
 have hs : ∀ r, r < m → ∃ q, q < m ∧ swM g i a r = g q ∧ swM M i a r = M q ∧ q = (if r = i then a else if r = a then i else r) := fun r hr => by
  unfold swM
  by_cases h1 : r = i
  ·exact ⟨a, ha, by rw [if_pos h1], by rw [if_pos h1], by rw [if_pos h1]⟩
  ·by_cases h2 : r = a
   ·exact ⟨i, hi, by rw [if_neg h1, if_pos h2], by rw [if_neg h1, if_pos h2], by rw [if_neg h1, if_pos h2]⟩
   ·exact ⟨r, hr, by rw [if_neg h1, if_neg h2], by rw [if_neg h1, if_neg h2], by rw [if_neg h1, if_neg h2]⟩
 refine ⟨?_, by simpa using h.lt, h.ge, fun r hr => ?_, fun r hr => ?_, fun r hr => ?_, fun r hr => ?_, fun r q hr hq e => ?_⟩
 ·have h1 := VAt.set (VAt.set h.top (k := i) (by rw [mrow_len]; exact hi) (.slice (some ⟨g a, 0, none⟩) W (c a))) (k := a) (by rw [List.length_set, mrow_len]; exact ha) (.slice (some ⟨g i, 0, none⟩) W (c i))
  have e : ((mrow g c W m).set i (.slice (some ⟨g a, 0, none⟩) W (c a))).set a (.slice (some ⟨g i, 0, none⟩) W (c i)) = mrow (swM g i a) (swM c i a) W m := by
   refine List.ext_getElem (by simp [mrow]) fun j h1 h2 => ?_
   rw [mrow_get, List.getElem_set]
   by_cases e1 : a = j
   ·subst e1
    rw [if_pos rfl]
    unfold swM
    by_cases e2 : a = i
    ·subst e2
     rw [if_pos rfl, if_pos rfl]
    ·rw [if_neg e2, if_pos rfl, if_neg e2, if_pos rfl]
   ·rw [if_neg e1, List.getElem_set]
    unfold swM
    by_cases e2 : i = j
    ·subst e2
     rw [if_pos rfl, if_pos rfl, if_pos rfl]
    ·rw [if_neg e2, mrow_get, if_neg (fun e => e2 e.symm), if_neg (fun e => e1 e.symm), if_neg (fun e => e2 e.symm), if_neg (fun e => e1 e.symm)]
  rw [e] at h1
  exact h1
 ·obtain ⟨q, hq, e1, e2, _⟩ := hs r hr
  rw [e1, e2]
  exact VAt.far (VAt.far (h.row q hq) (fun e => h.ne q hq e.symm) _) (fun e => h.ne q hq e.symm) _
 ·obtain ⟨q, hq, e1, _, _⟩ := hs r hr
  rw [e1]
  simpa using h.rlt q hq
 ·obtain ⟨q, hq, e1, _, _⟩ := hs r hr
  rw [e1]
  exact h.rge q hq
 ·obtain ⟨q, hq, e1, _, _⟩ := hs r hr
  rw [e1]
  exact h.ne q hq
 ·obtain ⟨x, hx, e1, _, f1⟩ := hs r hr
  obtain ⟨y, hy, e2, _, f2⟩ := hs q hq
  rw [e1, e2] at e
  have := h.inj x y hx hy e
  rw [f1, f2] at this
  clear e e1 e2 f1 f2 hx hy
  repeat' split at this
  all_goals omega
theorem Mat.drew {w : World} {base G m W : Nat} {g c : Nat → Nat} {M : Nat → Nat → R} (h : Mat w base G m W g c M) : Mat w.drew base G m W g c M := ⟨h.top, h.lt, h.ge, h.row, h.rlt, h.rge, h.ne, h.inj⟩
theorem Mat.below {w w' : World} {base G m W : Nat} {g c : Nat → Nat} {M : Nat → Nat → R} (h : Mat w base G m W g c M) (k : Below w.heap.size w w') : Mat w' base G m W g c M :=
 ⟨VAt.below h.top k h.lt, Nat.lt_of_lt_of_le h.lt k.size, h.ge, fun r hr => VAt.below (h.row r hr) k (h.rlt r hr), fun r hr => Nat.lt_of_lt_of_le (h.rlt r hr) k.size, h.rge, h.ne, h.inj⟩
end G8

namespace G8
open G5
open G7
open G6 (ev ev_nil ev_cons ev_append ev_snoc ev_one xz zx xac xcan tac tms_ne one_ne getD_set getD_far ad ad_len ad_get ev_ad sc sc_len ev_sc few_roots)

/-! ### moments -/
def mom (n : Nat) (v : Nat → R) (t : Nat) : R := sr (List.range n) fun i => tms (v i) (pw (lc n i) t)
theorem mom_vl (n : Nat) (v : Nat → R) (t : Nat) : vl (tab n v) (it t 1) = mom n v t := by
 rw [vl_sum, tab_len]
 refine sr_congr _ fun i hi => ?_
 rw [tab_get _ _ _ (List.mem_range.1 hi), pw_it]
 unfold lc
 rw [pw_it, Nat.mul_comm]
theorem mom_few {n p : Nat} {v : Nat → R} (hn : n ≤ 255) (h : ∀ t, t < p → mom n v t = 0) (hw : cnt n (fun i => !(v i == 0)) ≤ p) : ∀ i, i < n → v i = 0 := by
 intro i hi
 have hwt : wt (tab n v).reverse ≤ p := by
  rw [wt_reverse, wt_cnt, tab_len, cnt_congr (Q := fun i => !(v i == 0)) fun j hj => by rw [tab_get _ _ _ hj]]
  exact hw
 have := few_symbols (p := p) (l := (tab n v).reverse) (by rw [List.length_reverse, tab_len]; exact hn) (fun t ht => by rw [← vl_ev, mom_vl, h t ht]) hwt (n - 1 - i)
 rw [getD_rev _ _ (by rw [tab_len]; omega), tab_len, show n - 1 - (n - 1 - i) = i by omega, tab_get _ _ _ hi] at this
 exact this
/-! ### the syndromes modified by erasures -/
def md1 (X : R) (l : List R) (K : Nat) : List R := tab l.length fun k => if K ≤ k ∧ 0 < k then l.getD k 0 ^^^ tms X (l.getD (k - 1) 0) else l.getD k 0
theorem md1_len (X : R) (l : List R) (K : Nat) : (md1 X l K).length = l.length := tab_len _ _
theorem md1_start (X : R) (l : List R) (K : Nat) (h : l.length ≤ K) : md1 X l K = l := (tab_eq rfl fun k hk => by rw [if_neg (by omega)]).symm
theorem md1_at {X : R} {l : List R} {K : Nat} (h : K < l.length) : (md1 X l (K + 1)).getD K 0 = l.getD K 0 := by
 unfold md1
 rw [tab_get _ _ _ h, if_neg (by omega)]
theorem md1_prev {X : R} {l : List R} {K J : Nat} (h : K < l.length) (hJ : K = J + 1) : (md1 X l (K + 1)).getD J 0 = l.getD J 0 := by
 unfold md1
 rw [tab_get _ _ _ (by omega), if_neg (by omega)]
theorem md1_step {X : R} {l : List R} {K J : Nat} (h : K < l.length) (hJ : K = J + 1) : (md1 X l (K + 1)).set K (l.getD K 0 ^^^ tms X (l.getD J 0)) = md1 X l K := by
 unfold md1
 rw [tab_set _ _ _ _ h]
 refine tab_congr fun k hk => ?_
 by_cases e : k = K
 ·subst e
  rw [if_pos rfl, if_pos (by omega), show k - 1 = J by omega]
 ·rw [if_neg e]
  by_cases e2 : K + 1 ≤ k ∧ 0 < k
  ·rw [if_pos e2, if_pos (by omega)]
  ·rw [if_neg e2, if_neg (by omega)]
theorem md1_done (X : R) (l : List R) : md1 X l 1 = md1 X l 0 := tab_congr fun k hk => by
 by_cases e : 0 < k
 ·rw [if_pos (by omega), if_pos (by omega)]
 ·rw [if_neg (by omega), if_neg (by omega)]
def mdL (n : Nat) (l : List R) (es : List Nat) : List R := es.foldl (fun l e => md1 (lc n e) l 0) l
theorem mdL_snoc (n : Nat) (l : List R) (es : List Nat) (e : Nat) : mdL n l (es ++ [e]) = md1 (lc n e) (mdL n l es) 0 := by simp [mdL]
theorem mdL_len (n : Nat) : ∀ (es : List Nat) (l : List R), (mdL n l es).length = l.length
 | [], l => rfl
 | e :: es, l => by
  show (mdL n (md1 (lc n e) l 0) es).length = _
  rw [mdL_len n es, md1_len]
structure Mo (p n s : Nat) (l : List R) (v : Nat → R) : Prop where
 len : l.length = p
 val : ∀ k, s ≤ k → k < p → l.getD k 0 = mom n v (k - s)
theorem Mo.step {p n s : Nat} {l : List R} {v : Nat → R} (h : Mo p n s l v) (e : Nat) : Mo p n (s + 1) (md1 (lc n e) l 0) fun i => tms (v i) (lc n i ^^^ lc n e) := by
 refine ⟨by rw [md1_len]; exact h.len, fun k hk hkp => ?_⟩
 have hkl : k < l.length := by rw [h.len]; exact hkp
 unfold md1
 rw [tab_get _ _ _ hkl, if_pos (by omega), h.val k (by omega) hkp, h.val (k - 1) (by omega) (by omega)]
 obtain ⟨t, ht⟩ : ∃ t, k - (s + 1) = t := ⟨_, rfl⟩
 rw [ht, show k - s = t + 1 by omega, show k - 1 - s = t by omega]
 unfold mom
 rw [tms_comm (lc n e), ← sr_mul, ← sr_add]
 refine sr_congr _ fun i hi => ?_
 show _ = tms (tms (v i) (lc n i ^^^ lc n e)) (pw (lc n i) t)
 rw [show pw (lc n i) (t + 1) = tms (pw (lc n i) t) (lc n i) from rfl, tms_b, tms_a]
 congr 1
 ·simp only [tms_assoc, tms_comm, tac]
 ·simp only [tms_assoc, tms_comm, tac]
def vE (n : Nat) (u : Nat → R) (es : List Nat) : Nat → R := es.foldl (fun v e i => tms (v i) (lc n i ^^^ lc n e)) u
theorem vE_snoc (n : Nat) (u : Nat → R) (es : List Nat) (e : Nat) : vE n u (es ++ [e]) = fun i => tms (vE n u es i) (lc n i ^^^ lc n e) := by simp [vE]
theorem Mo.all {p n : Nat} {l : List R} {u : Nat → R} (h : Mo p n 0 l u) (es : List Nat) : Mo p n es.length (mdL n l es) (vE n u es) := by
 have key : ∀ k, k ≤ es.length → Mo p n k (mdL n l (es.take k)) (vE n u (es.take k)) := by
  intro k
  induction k with
  | zero => intro _; rw [List.take_zero]; exact h
  | succ k ih =>
   intro hk
   rw [show es.take (k + 1) = es.take k ++ [es[k]] from List.take_succ_eq_append_getElem (by omega), mdL_snoc, vE_snoc]
   exact (ih (by omega)).step _
 have := key es.length (Nat.le_refl _)
 rwa [List.take_length] at this
theorem vE_zero {n : Nat} (hn : n ≤ 255) {i : Nat} (hi : i < n) : ∀ (es : List Nat) (u : Nat → R), (∀ e ∈ es, e < n) → (vE n u es i = 0 ↔ u i = 0 ∨ i ∈ es)
 | [], u, _ => by
  show u i = 0 ↔ _
  simp
 | e :: es, u, h => by
  show vE n (fun i => tms (u i) (lc n i ^^^ lc n e)) es i = 0 ↔ _
  rw [vE_zero hn hi es _ fun k hk => h k (by simp [hk]), tms_zero_iff, xor_zero_iff]
  constructor
  ·rintro ((h1 | h1) | h1)
   ·exact .inl h1
   ·exact .inr (by rw [lc_inj hn hi (h e (by simp)) h1]; simp)
   ·exact .inr (by simp [h1])
  ·rintro (h1 | h1)
   ·exact .inl (.inl h1)
   ·rcases List.mem_cons.1 h1 with rfl | h1
    ·exact .inl (.inr rfl)
    ·exact .inr h1

/-! ### the key equations -/
/-- The product of the X + X_m. -/
def mon (n : Nat) : List Nat → List R
 | [] => [1]
 | m :: ms => ad (sc (lc n m) (mon n ms)) (0 :: mon n ms)
theorem mon_len (n : Nat) : ∀ ms, (mon n ms).length = ms.length + 1
 | [] => rfl
 | m :: ms => by
  show (ad (sc (lc n m) (mon n ms)) (0 :: mon n ms)).length = _
  rw [ad_len, sc_len, List.length_cons, mon_len n ms, List.length_cons]
  omega
theorem mon_last (n : Nat) : ∀ ms, (mon n ms).getD ms.length 0 = 1
 | [] => rfl
 | m :: ms => by
  show (ad (sc (lc n m) (mon n ms)) (0 :: mon n ms)).getD (ms.length + 1) 0 = 1
  rw [ad_get, getD_far _ _ (by rw [sc_len, mon_len]; omega), zx]
  exact mon_last n ms
theorem ev_mon (n m : Nat) (ms : List Nat) (x : R) : ev (mon n (m :: ms)) x = tms (lc n m ^^^ x) (ev (mon n ms) x) := by
 show ev (ad (sc (lc n m) (mon n ms)) (0 :: mon n ms)) x = _
 rw [ev_ad, ev_sc, ev_cons, zx, tms_a]
theorem mon_zero (n : Nat) (x : R) : ∀ ms : List Nat, ev (mon n ms) x = 0 ↔ ∃ m ∈ ms, lc n m = x
 | [] => by
  show ev [1] x = 0 ↔ _
  rw [ev_one]
  exact ⟨fun h => absurd h one_ne, fun ⟨m, h, _⟩ => by cases h⟩
 | m :: ms => by
  rw [ev_mon, tms_zero_iff, mon_zero n x ms, xor_zero_iff]
  constructor
  ·rintro (h | ⟨k, hk, h⟩)
   ·exact ⟨m, by simp, h⟩
   ·exact ⟨k, by simp [hk], h⟩
  ·rintro ⟨k, hk, h⟩
   rcases List.mem_cons.1 hk with rfl | hk
   ·exact .inl h
   ·exact .inr ⟨k, hk, h⟩
theorem ev_tab_sum (x : R) (f : Nat → R) : ∀ n : Nat, ev (tab n f) x = sr (List.range n) fun k => tms (f k) (pw x k) := by
 intro n
 induction n with
 | zero => rfl
 | succ n ih =>
  have e : tab (n + 1) f = tab n f ++ [f n] := by simp [tab, List.range_succ]
  rw [e, ev_snoc, tab_len, ih, List.range_succ, sr_app]
  show _ = _ ^^^ (tms (f n) (pw x n) ^^^ 0)
  rw [xz, tms_comm (pw x n)]
theorem sr_flip (f : Nat → R) : ∀ n : Nat, sr (List.range n) f = sr (List.range n) fun k => f (n - 1 - k) := by
 intro n
 induction n generalizing f with
 | zero => rfl
 | succ n ih =>
  have h1 : sr (List.range (n + 1)) f = f 0 ^^^ sr (List.range n) fun k => f (k + 1) := by
   have : List.range (n + 1) = 0 :: (List.range n).map (· + 1) := by rw [List.range_succ_eq_map]
   rw [this]
   show f 0 ^^^ sr ((List.range n).map (· + 1)) f = _
   congr 1
   have : ∀ ms : List Nat, sr (ms.map (· + 1)) f = sr ms fun k => f (k + 1) := fun ms => by
    induction ms with
    | nil => rfl
    | cons m ms ih =>
     show f (m + 1) ^^^ sr (ms.map (· + 1)) f = f (m + 1) ^^^ _
     rw [ih]
   exact this _
  rw [h1, ih, List.range_succ, sr_app]
  show _ = _ ^^^ (f (n + 1 - 1 - n) ^^^ 0)
  rw [xz, show n + 1 - 1 - n = 0 by omega, BitVec.xor_comm]
  congr 1
  refine sr_congr _ fun k hk => ?_
  have := List.mem_range.1 hk
  show f (n - 1 - k + 1) = f (n + 1 - 1 - k)
  congr 1
  omega
def keyM (l : List R) (s e : Nat) : Nat → Nat → R := fun r k => if k < e then l.getD (s + e + r - (k + 1)) 0 else l.getD (s + e + r) 0
def qOf (e : Nat) (y : Nat → R) : List R := tab (e + 1) fun t => if t < e then y (e - 1 - t) else y e
theorem ev_qOf (e : Nat) (y : Nat → R) (x : R) : ev (qOf e y) x = sr (List.range e) (fun k => tms (y k) (pw x (e - 1 - k))) ^^^ tms (y e) (pw x e) := by
 unfold qOf
 rw [ev_tab_sum, List.range_succ, sr_app]
 show _ ^^^ (tms (if e < e then _ else y e) (pw x e) ^^^ 0) = _
 rw [if_neg (Nat.lt_irrefl e), xz]
 congr 1
 rw [sr_flip]
 refine sr_congr _ fun k hk => ?_
 have := List.mem_range.1 hk
 rw [if_pos (by omega), show e - 1 - (e - 1 - k) = k by omega]
theorem sr_swap (f : Nat → Nat → R) : ∀ (cs bs : List Nat), sr cs (fun a => sr bs fun b => f a b) = sr bs fun b => sr cs fun a => f a b
 | [], bs => (sr_zero bs fun _ _ => rfl).symm
 | a :: cs, bs => by
  show sr bs (fun b => f a b) ^^^ sr cs (fun a => sr bs fun b => f a b) = _
  rw [sr_swap f cs bs, ← sr_add]
  rfl
theorem key_dot {p n s e : Nat} {l : List R} {v : Nat → R} (h : Mo p n s l v) {r : Nat} (hr : s + e + r < p) (y : Nat → R) :
  dot e (keyM l s e r) y = mom n (fun i => tms (v i) (ev (qOf e y) (lc n i))) r := by
 have e1 : dot e (keyM l s e r) y = sr (List.range (e + 1)) fun k => sr (List.range n) fun i => tms (v i) (tms (y k) (pw (lc n i) (if k < e then e + r - (k + 1) else e + r))) := by
  refine sr_congr _ fun k hk => ?_
  have hk := List.mem_range.1 hk
  have : keyM l s e r k = mom n v (if k < e then e + r - (k + 1) else e + r) := by
   unfold keyM
   by_cases h1 : k < e
   ·rw [if_pos h1, if_pos h1, h.val _ (by omega) (by omega)]
    congr 1
    omega
   ·rw [if_neg h1, if_neg h1, h.val _ (by omega) (by omega)]
    congr 1
    omega
  rw [this]
  unfold mom
  rw [← sr_mul]
  refine sr_congr _ fun i _ => ?_
  simp only [tms_assoc, tms_comm, tac]
 rw [e1, sr_swap]
 unfold mom
 refine sr_congr _ fun i _ => ?_
 show _ = tms (tms (v i) (ev (qOf e y) (lc n i))) (pw (lc n i) r)
 rw [ev_qOf, List.range_succ, sr_app]
 show _ ^^^ (tms (v i) (tms (y e) (pw (lc n i) (if e < e then _ else e + r))) ^^^ 0) = _
 rw [if_neg (Nat.lt_irrefl e), xz, tms_b, tms_a]
 congr 1
 ·rw [tms_comm (v i), ← sr_mul, ← sr_mul]
  refine sr_congr _ fun k hk => ?_
  have hk := List.mem_range.1 hk
  rw [if_pos hk, show e + r - (k + 1) = (e - 1 - k) + r by omega, pw_add]
  simp only [tms_assoc, tms_comm, tac]
 ·rw [pw_add]
  simp only [tms_assoc, tms_comm, tac]
def plc (n : Nat) (v : Nat → R) : List Nat := (List.range n).filter fun i => !(v i == 0)
theorem plc_mem {n : Nat} {v : Nat → R} {i : Nat} : i ∈ plc n v ↔ i < n ∧ v i ≠ 0 := by
 unfold plc
 rw [List.mem_filter, List.mem_range]
 simp
theorem plc_nodup (n : Nat) (v : Nat → R) : (plc n v).Nodup := List.nodup_range.sublist List.filter_sublist
def keyY (n e : Nat) (v : Nat → R) : Nat → R := fun k => if k < e then (mon n (plc n v)).getD (e - 1 - k) 0 else 1
theorem key_q {n e : Nat} {v : Nat → R} (he : (plc n v).length = e) : qOf e (keyY n e v) = mon n (plc n v) := by
 refine (tab_eq (by rw [mon_len, he]) fun t ht => ?_).symm
 unfold keyY
 by_cases h : t < e
 ·rw [if_pos h, if_pos (by omega), show e - 1 - (e - 1 - t) = t by omega]
 ·rw [if_neg h, if_neg (Nat.lt_irrefl e), show t = e by omega, ← he, mon_last]
theorem lc_nodup {n : Nat} (hn : n ≤ 255) : ∀ ms : List Nat, ms.Nodup → (∀ m ∈ ms, m < n) → (ms.map (lc n)).Nodup
 | [], _, _ => List.nodup_nil
 | m :: ms, h, hl => by
  obtain ⟨h1, h2⟩ := List.nodup_cons.1 h
  rw [List.map_cons, List.nodup_cons]
  refine ⟨fun hm => ?_, lc_nodup hn ms h2 fun k hk => hl k (by simp [hk])⟩
  obtain ⟨k, hk, e⟩ := List.mem_map.1 hm
  rw [lc_inj hn (hl k (by simp [hk])) (hl m (by simp)) e] at hk
  exact h1 hk
theorem key_uq {p n s e : Nat} {l : List R} {v : Nat → R} (hn : n ≤ 255) (h : Mo p n s l v) (he : (plc n v).length = e) (hr : 2 * e + s ≤ p) : Uq (p - s - e) e (keyM l s e) (keyY n e v) := by
 have hcnt : cnt n (fun i => !(v i == 0)) = e := he
 refine ⟨fun r hr => ?_, ?_, fun y hy hye k hk => ?_⟩
 ·rw [key_dot h (by omega), key_q he]
  refine sr_zero _ fun i hi => ?_
  have hi := List.mem_range.1 hi
  show tms (tms (v i) (ev (mon n (plc n v)) (lc n i))) (pw (lc n i) r) = 0
  by_cases h0 : v i = 0
  ·rw [h0, zero_tms, zero_tms]
  ·rw [(mon_zero n (lc n i) _).2 ⟨i, plc_mem.2 ⟨hi, h0⟩, rfl⟩, tms_zero, zero_tms]
 ·unfold keyY
  rw [if_neg (Nat.lt_irrefl e)]
 ·have hz := mom_few (p := e) (v := fun i => tms (v i) (ev (qOf e y) (lc n i))) hn (fun t ht => by
   rw [← key_dot h (by omega)]
   exact hy t (by omega)) (by
   rw [← hcnt]
   refine cnt_mono fun i hi hne => ?_
   cases h0 : (v i == 0)
   ·rfl
   ·have : v i = 0 := by simpa using h0
    simp only [this, zero_tms] at hne
    simp at hne)
  have hq : ev (qOf e y) = ev (tab e fun t => y (e - 1 - t)) := by
   funext x
   have e1 : qOf e y = tab e (fun t => if t < e then y (e - 1 - t) else y e) ++ [y e] := by
    unfold qOf
    simp [tab, List.range_succ]
   rw [e1, ev_snoc, hye, tms_zero, xz]
   congr 1
   exact tab_congr fun t ht => if_pos ht
  have hroots := few_roots ((plc n v).map (lc n)) (lc_nodup hn _ (plc_nodup n v) fun m hm => (plc_mem.1 hm).1) (tab e fun t => y (e - 1 - t)) (by rw [tab_len, List.length_map, he]; exact Nat.le_refl _) (fun x hx => by
   obtain ⟨i, hi, rfl⟩ := List.mem_map.1 hx
   obtain ⟨h1, h2⟩ := plc_mem.1 hi
   have := hz i h1
   rw [← hq]
   exact (tms_eq_zero this).resolve_left h2)
  have hmem : (tab e fun t => y (e - 1 - t)).getD (e - 1 - k) 0 ∈ (tab e fun t => y (e - 1 - t)) := by
   have hl : e - 1 - k < (tab e fun t => y (e - 1 - t)).length := by rw [tab_len]; omega
   rw [List.getD_eq_getElem?_getD, List.getElem?_eq_getElem hl]
   exact List.getElem_mem _
  have := hroots _ hmem
  rw [tab_get _ _ _ (by omega), show e - 1 - (e - 1 - k) = k by omega] at this
  exact this
theorem key_root {n e : Nat} {v : Nat → R} (he : (plc n v).length = e) {X x : R} (hx : tms X x = 1) : (1 ^^^ sr (List.range e) fun k => tms (keyY n e v k) (pw x (k + 1))) = 0 ↔ ev (mon n (plc n v)) X = 0 := by
 have hx0 : X ≠ 0 := fun e => by rw [e, zero_tms] at hx; exact one_ne hx.symm
 have hpw : ∀ k, tms (pw X k) (pw x k) = 1 := fun k => by
  induction k with
  | zero => exact one_tms 1
  | succ k ih =>
   show tms (tms (pw X k) X) (tms (pw x k) x) = 1
   rw [show tms (tms (pw X k) X) (tms (pw x k) x) = tms (tms (pw X k) (pw x k)) (tms X x) by simp only [tms_assoc, tms_comm, tac], ih, hx, one_tms]
 have hne : ∀ k, pw X k ≠ 0 := fun k e => by have := hpw k; rw [e, zero_tms] at this; exact one_ne this.symm
 have key : tms (1 ^^^ sr (List.range e) fun k => tms (keyY n e v k) (pw x (k + 1))) (pw X e) = ev (mon n (plc n v)) X := by
  rw [← key_q he, ev_qOf, tms_a, one_tms, ← sr_mul, BitVec.xor_comm, show keyY n e v e = 1 by unfold keyY; rw [if_neg (Nat.lt_irrefl e)], one_tms]
  congr 1
  refine sr_congr _ fun k hk => ?_
  have hk := List.mem_range.1 hk
  have : pw X e = tms (pw X (e - 1 - k)) (pw X (k + 1)) := by rw [← pw_add]; congr 1; omega
  rw [this, show tms (tms (keyY n e v k) (pw x (k + 1))) (tms (pw X (e - 1 - k)) (pw X (k + 1))) = tms (tms (keyY n e v k) (pw X (e - 1 - k))) (tms (pw X (k + 1)) (pw x (k + 1))) by simp only [tms_assoc, tms_comm, tac], hpw, tms_one]
 rw [← key]
 constructor
 ·intro h
  rw [h, zero_tms]
 ·intro h
  exact (tms_eq_zero h).resolve_right (hne e)

/-! ### the equations of the values -/
theorem sr_list (g : Nat → R) : ∀ ps : List Nat, sr (List.range ps.length) (fun k => g (ps.getD k 0)) = sr ps g := by
 intro ps
 have key : ∀ N, N ≤ ps.length → sr (List.range N) (fun k => g (ps.getD k 0)) = sr (ps.take N) g := by
  intro N
  induction N with
  | zero => intro _; rfl
  | succ N ih =>
   intro h
   have e : ps.take (N + 1) = ps.take N ++ [ps.getD N 0] := by
    rw [List.take_succ_eq_append_getElem (by omega)]
    simp [List.getD_eq_getElem?_getD, List.getElem?_eq_getElem (show N < ps.length by omega)]
   rw [List.range_succ, sr_app, ih (by omega), e, sr_app]
   rfl
 have := key ps.length (Nat.le_refl _)
 rwa [List.take_length] at this
theorem sr_sub (n : Nat) (f : Nat → R) : ∀ ps : List Nat, ps.Nodup → (∀ i ∈ ps, i < n) → sr ps f = sr (List.range n) fun i => if i ∈ ps then f i else 0
 | [], _, _ => (sr_zero _ fun i _ => by rw [if_neg (by simp)]).symm
 | a :: ps, h, hl => by
  obtain ⟨h1, h2⟩ := List.nodup_cons.1 h
  show f a ^^^ sr ps f = _
  rw [sr_sub n f ps h2 fun i hi => hl i (by simp [hi])]
  have e : (sr (List.range n) fun i => if i ∈ a :: ps then f i else 0) = sr (List.range n) fun i => (if i = a then f a else 0) ^^^ (if i ∈ ps then f i else 0) := by
   refine sr_congr _ fun i hi => ?_
   by_cases e1 : i = a
   ·subst e1
    rw [if_pos (by simp), if_pos rfl, if_neg h1, xz]
   ·rw [if_neg e1, zx]
    by_cases e2 : i ∈ ps
    ·rw [if_pos (by simp [e2]), if_pos e2]
    ·rw [if_neg (by simp [e1, e2]), if_neg e2]
  rw [e, sr_add, sr_pick, if_pos (hl a (by simp))]
def valM (n N : Nat) (ps : List Nat) (S : List R) : Nat → Nat → R := fun r k => if k < N then pw (lc n (ps.getD k 0)) r else S.getD r 0
theorem val_dot {n N : Nat} {ps : List Nat} {S : List R} (hN : ps.length = N) (r : Nat) (y : Nat → R) : dot N (valM n N ps S r) y = (sr (List.range N) fun k => tms (pw (lc n (ps.getD k 0)) r) (y k)) ^^^ tms (S.getD r 0) (y N) := by
 unfold dot
 rw [List.range_succ, sr_app]
 show _ ^^^ (tms (valM n N ps S r N) (y N) ^^^ 0) = _
 rw [xz, show valM n N ps S r N = S.getD r 0 by unfold valM; rw [if_neg (Nat.lt_irrefl N)]]
 congr 1
 refine sr_congr _ fun k hk => ?_
 unfold valM
 rw [if_pos (List.mem_range.1 hk)]
theorem nodup_get {ps : List Nat} (h : ps.Nodup) {j k : Nat} (hj : j < ps.length) (hk : k < ps.length) (e : ps.getD j 0 = ps.getD k 0) : j = k := by
 simp only [List.getD_eq_getElem?_getD, List.getElem?_eq_getElem hj, List.getElem?_eq_getElem hk, Option.getD_some] at e
 exact (List.getElem_inj h).1 e
def valY (N : Nat) (ps : List Nat) (u : Nat → R) : Nat → R := fun k => if k < N then u (ps.getD k 0) else 1
theorem val_uq {p n N : Nat} {ps : List Nat} {S : List R} {u : Nat → R} (hn : n ≤ 255) (hN : ps.length = N) (hd : ps.Nodup) (hl : ∀ i ∈ ps, i < n) (hNp : N ≤ p) (hS : ∀ r, r < p → S.getD r 0 = mom n u r) (hu : ∀ i, i < n → i ∉ ps → u i = 0) :
  Uq p N (valM n N ps S) (valY N ps u) := by
 refine ⟨fun r hr => ?_, ?_, fun y hy hyN k hk => ?_⟩
 ·rw [val_dot hN, show valY N ps u N = 1 by unfold valY; rw [if_neg (Nat.lt_irrefl N)], tms_one, hS r hr, xor_zero_iff]
  have e1 : (sr (List.range N) fun k => tms (pw (lc n (ps.getD k 0)) r) (valY N ps u k)) = sr (List.range N) fun k => (fun i => tms (u i) (pw (lc n i) r)) (ps.getD k 0) := sr_congr _ fun k hk => by
   unfold valY
   rw [if_pos (List.mem_range.1 hk), tms_comm]
  rw [e1, ← hN]
  refine (sr_list (fun i => tms (u i) (pw (lc n i) r)) ps).trans ?_
  rw [sr_sub n _ ps hd hl]
  refine sr_congr _ fun i hi => ?_
  by_cases h : i ∈ ps
  ·rw [if_pos h]
  ·rw [if_neg h, hu i (List.mem_range.1 hi) h, zero_tms]
 ·unfold valY
  rw [if_neg (Nat.lt_irrefl N)]
 ·obtain ⟨z, hz⟩ : ∃ z : Nat → R, ∀ i, z i = sr (List.range N) fun k => if ps.getD k 0 = i then y k else 0 := ⟨_, fun _ => rfl⟩
  have hzk : ∀ k, k < N → z (ps.getD k 0) = y k := fun k hk => by
   rw [hz]
   have : (sr (List.range N) fun j => if ps.getD j 0 = ps.getD k 0 then y j else 0) = sr (List.range N) fun j => if j = k then y k else 0 := sr_congr _ fun j hj => by
    have hj := List.mem_range.1 hj
    by_cases e : j = k
    ·subst e
     rw [if_pos rfl, if_pos rfl]
    ·rw [if_neg e, if_neg (fun h => e (nodup_get hd (by omega) (by omega) h))]
   rw [this, sr_pick, if_pos hk]
  have hz0 : ∀ i, i ∉ ps → z i = 0 := fun i hi => by
   rw [hz]
   refine sr_zero _ fun k hk => if_neg fun e => hi ?_
   have hk := List.mem_range.1 hk
   rw [← e, List.getD_eq_getElem?_getD, List.getElem?_eq_getElem (by omega)]
   exact List.getElem_mem _
  have hm : ∀ t, t < p → mom n z t = 0 := fun t ht => by
   have := hy t ht
   rw [val_dot hN, hyN, tms_zero, xz] at this
   rw [← this]
   have e1 : (sr (List.range N) fun k => tms (pw (lc n (ps.getD k 0)) t) (y k)) = sr (List.range N) fun k => (fun i => tms (z i) (pw (lc n i) t)) (ps.getD k 0) := sr_congr _ fun k hk => by
    show _ = tms (z (ps.getD k 0)) (pw (lc n (ps.getD k 0)) t)
    rw [hzk k (List.mem_range.1 hk), tms_comm]
   rw [e1, ← hN]
   refine Eq.symm ((sr_list (fun i => tms (z i) (pw (lc n i) t)) ps).trans ?_)
   rw [sr_sub n _ ps hd hl]
   unfold mom
   refine sr_congr _ fun i hi => ?_
   by_cases h : i ∈ ps
   ·rw [if_pos h]
   ·rw [if_neg h, hz0 i h, zero_tms]
  have hw : cnt n (fun i => !(z i == 0)) ≤ p := by
   have h1 : cnt n (fun i => !(z i == 0)) ≤ cnt n (fun i => decide ((i : Int) ∈ ps.map fun (j : Nat) => (j : Int))) := cnt_mono fun i hi h => by
    rw [decide_eq_true_eq, List.mem_map]
    by_cases e : i ∈ ps
    ·exact ⟨i, e, rfl⟩
    ·rw [hz0 i e] at h
     simp at h
   have h2 := cnt_mem n (ps.map fun (j : Nat) => (j : Int))
   rw [List.length_map] at h2
   omega
  have := mom_few hn hm hw (ps.getD k 0) (hl _ (by rw [List.getD_eq_getElem?_getD, List.getElem?_eq_getElem (by omega)]; exact List.getElem_mem _))
  rwa [hzk k hk] at this
end G8
namespace G8
open G5
open G7
open Go.RowKit Mem

def RDec : Prop := ∀ {s : ByteArray} {p : Int} {zs : List Int} {A : Option Addr} {n c : Nat} {w : World}, IsInts w A c zs → zs.length = n → s.size ≤ 60 → n ≤ 40 → p ≤ 16 → -9223372036854775808 ≤ p → Calls Tryz.prog 62 #[.string s, .int .i64 p, .slice A n c] w (Deco (el s) p zs w)

set_option maxHeartbeats 2000000 in
theorem rloc_any (a b : ByteArray) (w : World) (ha : a.size ≤ 1000) (hb0 : b.size ≤ 1000) : Calls Tryz.prog 107 #[.string a, .string b] w (Loc (el a) (el b) w) := by
 by_cases hl : a.size = b.size
 ·obtain ⟨j0, hj, hy0, hy1, hy2⟩ := info_parts info_int
  obtain ⟨N, hN⟩ : ∃ N, a.size = N := ⟨_, rfl⟩
  have t1 : ((a.size : Int) != (b.size : Int)) = false := by rw [hl]; simp
  have hNh := Lib.hid hN
  have hlh := Lib.hid hl
  have hN1 : N ≤ 1000 := by omega
  have t2 : (a.size != b.size) = false := by rw [hl]; simp
  clear hl hN
  go_enter Tryz.func107, Tryz.ntmps107
  go_wp2
  go_loopw [6, 7] (fun v x wr => ∃ k n : Nat, k ≤ N ∧ n ≤ k ∧ x = .int .i64 k ∧ wr.ownsRow w.heap.size 3 1 v n (is (lk (el a) (el b) k)) ∧ Below w.heap.size w wr) (fun _ x _ => N - (intOf x).toNat)
  case atStart => exact ⟨0, 0, Nat.zero_le _, Nat.le_refl _, rfl, World.ownsRow_nil _ _ _ _, Below.refl _ _⟩
  case round =>
   obtain ⟨k, n, hk, hnk, rfl, hown, hb⟩ := hrel
   by_cases hlt : k < N
   ·have hka : k < a.size := by have := hNh.out; omega
    have hkb : k < b.size := by have := hNh.out; have := hlh.out; omega
    obtain ⟨X, hX⟩ : ∃ X, (el a).getD k 0 = X := ⟨_, rfl⟩
    obtain ⟨Y, hY⟩ : ∃ Y, (el b).getD k 0 = Y := ⟨_, rfl⟩
    have hbx := byte_val a k hka X hX
    have hby := byte_val b k hkb Y hY
    have hdf : differ (el a) (el b) k = !(X == Y) := by unfold differ; rw [hX, hY]
    have d1 : decide (k < a.size) = true := decide_eq_true hka
    have i1 : (0 : Int) ≤ (k : Int) := by omega
    have i2 : (k : Int) < (a.size : Int) := by omega
    have i3 : (k : Int) < (b.size : Int) := by omega
    rcases he : X == Y with _ | _
    ·have ht : ((X.toNat : Int) != (Y.toNat : Int)) = true := by rw [bne, bv_eq1, he]; rfl
     have hs := Lib.hid (lk_yes (a := el a) (b := el b) (k := k) (by rw [hdf, he]; rfl))
     clear hX hY he hdf
     go_wp2
     go_quiet (fail)
     rename_i nq _
     have hown := (show (wr.drewN nq).ownsRow _ _ _ _ _ _ from hown)
     have hb := chainN hb nq
     obtain ⟨W, hW⟩ : ∃ W, wr.drewN nq = W := ⟨_, rfl⟩
     rw [hW] at hown hb ⊢
     clear hW
     go_wp2_with (at_builtin; refine wpList_append_own _ rfl _ _ 95 rfl w.heap.size 3 j0 (.int .i64 0) 1 8 Tryz.underlying95 hj hy0 hy1 hy2 rfl (by decide) _ _ _ rfl (hown.alloc _) ⟨W.heap.size, 0, none⟩ 1 1 [.int .i64 (k : Int)] rfl rfl (one_new _ _ _) (one_cell _ _) ?d3 ?d4 ?d5 ?_)
     case d3 => unfold maxLen; omega
     case d4 => omega
     case d5 => have := hb.size; simp; omega
     intro v' w2 hown2 hgr _
     rw [show [Value.int .i64 (k : Int)] = is [(k : Int)] from rfl, ← is_append, ← hs.out] at hown2
     have hb2 := (hb.alloc hb.size _).grown hgr (by have := hb.size; simp; omega) (fun j hj => (hown.lt j hj).1)
     clear hown hgr hb
     go_wp2
     go_roundw
     case rel => exact ⟨k + 1, n + 1, by omega, by omega, by go_num, hown2, hb2⟩
     case measure => simp [intOf]; omega
    ·have ht : ((X.toNat : Int) != (Y.toNat : Int)) = false := by rw [bne, bv_eq1, he]; rfl
     have hs := Lib.hid (lk_no (a := el a) (b := el b) (k := k) (by rw [hdf, he]; rfl))
     clear hX hY he hdf
     go_wp2
     go_quiet (fail)
     rename_i nq _
     have hown := (show (wr.drewN nq).ownsRow _ _ _ _ _ _ from hown)
     rw [← hs.out] at hown
     have hb := chainN hb nq
     go_wp2
     go_roundw
     case rel => exact ⟨k + 1, n, by omega, by omega, by go_num, hown, hb⟩
     case measure => simp [intOf]; omega
   ·have hke : k = (el a).length := by rw [el_len, hNh.out]; omega
    have d1 : decide (k < a.size) = false := decide_eq_false (by have := hNh.out; omega)
    obtain ⟨A', c', rfl, _, _⟩ := own_slice hown
    have hfit := lk_fit (el a) (el b) k (by omega)
    obtain ⟨hsl, hlen⟩ := IsInts.of_own hown hfit
    have hsl := Lib.hid hsl
    have hlen := Lib.hid hlen
    have hq : Hid (LocQ (el a) (el b) (lk (el a) (el b) k) 0) := Lib.hid ⟨fun h => absurd (by rw [el_len, el_len]; exact hlh.out) h, fun _ => ⟨by rw [locL_lk, hke], rfl⟩⟩
    clear hown hfit hke
    go_wp2
    go_ret2
    exact ⟨A', n, c', _, 0, hq.out, hlen.out, rfl, hsl.out, hb⟩
 ·have t1 : ((a.size : Int) != (b.size : Int)) = true := by
   rw [bne_iff_ne]
   omega
  have t2 : (a.size != b.size) = true := by rw [bne_iff_ne]; exact hl
  have hlh := Lib.hid hl
  clear hl
  go_enter Tryz.func107, Tryz.ntmps107
  go_wp2
  go_ret2
  exact ⟨none, 0, 0, [], 1, ⟨fun _ => ⟨rfl, rfl⟩, fun h => absurd (by rw [← el_len, ← el_len]; exact h) hlh.out⟩, rfl, rfl, IsInts.no _, Below.refl _ _⟩
end G8
namespace G8
open Go.RowKit Mem

theorem is_one (l : List Int) : ∀ u ∈ is l, u.oneCell' = true := by
 intro u hu
 obtain ⟨z, _, rfl⟩ := List.mem_map.1 hu
 rfl
end G8
end Go.Proofs.YtiodkllckcpinaaGreatDoor
