/- Plain facts for layer 7: lists by their entries; one row of the long division; one step of the shift register. -/
import Derived.Test.YtkobcffkgaodbaaG7El
namespace Go.Proofs.Ytkobcffkgaodbaa.G7
open Go.Proofs.Ytkobcffkgaodbaa.G5
open Go.Proofs.Ytkobcffkgaodbaa.G6 (ev ev_nil ev_cons ev_append ev_snoc ev_one xz zx xac xcan tac sc ev_sc sc_len getD_app getD_zeros getD_set getD_take getD_far eq_getD)
set_option linter.unusedVariables false
set_option linter.unusedSimpArgs false

theorem gz (n j : Nat) : (List.replicate n (0 : R)).getD j 0 = 0 := getD_zeros n j
def tab (n : Nat) (f : Nat → R) : List R := (List.range n).map f
theorem tab_len (n : Nat) (f : Nat → R) : (tab n f).length = n := by simp [tab]
theorem tab_get (n : Nat) (f : Nat → R) (j : Nat) (h : j < n) : (tab n f).getD j 0 = f j := by simp [tab, List.getD_eq_getElem?_getD, h]
theorem tab_eq {n : Nat} {f : Nat → R} {l : List R} (hl : l.length = n) (h : ∀ j, j < n → l.getD j 0 = f j) : l = tab n f :=
  eq_getD (by rw [hl, tab_len]) fun j hj => by rw [h j (by omega), tab_get _ _ _ (by omega)]
theorem tab_congr {n : Nat} {f g : Nat → R} (h : ∀ j, j < n → f j = g j) : tab n f = tab n g := tab_eq (tab_len _ _) fun j hj => by rw [tab_get _ _ _ hj, h j hj]
theorem tab_set (n : Nat) (f : Nat → R) (j : Nat) (c : R) (h : j < n) : (tab n f).set j c = tab n (fun m => if m = j then c else f m) :=
  tab_eq (by rw [List.length_set, tab_len]) fun m hm => by
    rw [getD_set _ _ _ _ (by rw [tab_len]; exact h)]
    split
    · rfl
    · exact tab_get _ _ _ hm
theorem getD_rev (l : List R) (j : Nat) (h : j < l.length) : l.reverse.getD j 0 = l.getD (l.length - 1 - j) 0 := by
  simp [List.getD_eq_getElem?_getD, List.getElem?_reverse h]
theorem getD_sc (c : R) (l : List R) (j : Nat) : (sc c l).getD j 0 = tms c (l.getD j 0) := by
  by_cases h : j < l.length
  · simp [sc, List.getD_eq_getElem?_getD, List.getElem?_map, List.getElem?_eq_getElem h]
  · rw [getD_far _ _ (by rw [sc_len]; omega), getD_far _ _ (by omega), tms_zero]

/-! ### the syndromes -/
def syn (p : Nat) (w : List R) : List R := tab p fun i => vl w (it i 1)
theorem syn_len (p : Nat) (w : List R) : (syn p w).length = p := tab_len _ _
theorem syn_get (p : Nat) (w : List R) (i : Nat) (h : i < p) : (syn p w).getD i 0 = vl w (it i 1) := tab_get _ _ _ h
theorem syn_succ (p : Nat) (w : List R) : syn (p + 1) w = syn p w ++ [vl w (it p 1)] := by simp [syn, tab, List.range_succ]
theorem syn_cw (p : Nat) (w : List R) : (syn p w).all (· == 0) = true ↔ Cw p w := by
  rw [List.all_eq_true]
  constructor
  · intro h i hi
    have := h (vl w (it i 1)) (by unfold syn tab; exact List.mem_map.2 ⟨i, List.mem_range.2 hi, rfl⟩)
    simpa using this
  · intro h a ha
    obtain ⟨i, hi, rfl⟩ := List.mem_map.1 (show a ∈ (List.range p).map fun i => vl w (it i 1) from ha)
    rw [h i (List.mem_range.1 hi)]
    rfl
/-- Is the word a code word? -/
def cwB (p : Nat) (w : List R) : Bool := (syn p w).all (· == 0)
theorem cwB_yes {p : Nat} {w : List R} (h : Cw p w) : cwB p w = true := (syn_cw p w).2 h
theorem cwB_iff {p : Nat} {w : List R} : cwB p w = true ↔ Cw p w := syn_cw p w

/-! ### one row of the long division -/
def row (r g : List R) (i p : Nat) (L : R) (k : Nat) : List R := tab r.length fun j => r.getD j 0 ^^^ (if i ≤ j ∧ j < i + k then tms L (g.getD (p - (j - i)) 0) else 0)
theorem row_len (r g : List R) (i p : Nat) (L : R) (k : Nat) : (row r g i p L k).length = r.length := tab_len _ _
theorem row_get (r g : List R) (i p : Nat) (L : R) (k j : Nat) (h : j < r.length) : (row r g i p L k).getD j 0 = r.getD j 0 ^^^ (if i ≤ j ∧ j < i + k then tms L (g.getD (p - (j - i)) 0) else 0) := tab_get _ _ _ h
theorem row_zero (r g : List R) (i p : Nat) (L : R) : row r g i p L 0 = r := (tab_eq rfl fun j _ => by rw [if_neg (by omega), xz]).symm
theorem row_at {r g : List R} {i p k m : Nat} {L : R} (h : i + k < r.length) (hm : m = i + k) : (row r g i p L k).getD m 0 = r.getD m 0 := by
  subst hm
  rw [row_get _ _ _ _ _ _ _ h, if_neg (by omega), xz]
theorem row_step {r g : List R} {i p k m q : Nat} {L : R} (h : i + k < r.length) (hm : m = i + k) (hq : q = p - k) : (row r g i p L k).set m (r.getD m 0 ^^^ tms L (g.getD q 0)) = row r g i p L (k + 1) := by
  subst hm hq
  unfold row
  rw [tab_set _ _ _ _ h]
  refine tab_congr fun j hj => ?_
  by_cases e : j = i + k
  · subst e
    rw [if_pos rfl, if_pos (by omega), show i + k - i = k by omega]
  · rw [if_neg e]
    by_cases e2 : i ≤ j ∧ j < i + k
    · rw [if_pos e2, if_pos (by omega)]
    · rw [if_neg e2, if_neg (by omega)]
theorem row_vl {r g : List R} {i p q : Nat} {L x : R} (hr : r.length = i + (p + 1) + q) (hg : g.length = p + 1) (hx : ev g x = 0) : vl (row r g i p L (p + 1)) x = vl r x := by
  have e : row r g i p L (p + 1) = xr r (List.replicate i 0 ++ ((sc L g).reverse ++ List.replicate q 0)) := by
    have hl : (List.replicate i (0 : R) ++ ((sc L g).reverse ++ List.replicate q 0)).length = r.length := by simp [sc_len]; omega
    refine (tab_eq (by rw [xr_len2, hl, Nat.min_self]) fun j hj => ?_).symm
    rw [xr_get _ _ _ hj (by rw [hl]; exact hj)]
    congr 1
    rw [getD_app, List.length_replicate]
    by_cases h1 : j < i
    · rw [if_pos h1, if_neg (by omega), gz]
    · rw [if_neg h1, getD_app, List.length_reverse, sc_len, hg]
      by_cases h2 : j - i < p + 1
      · rw [if_pos h2, if_pos (by omega), getD_rev _ _ (by rw [sc_len]; omega), sc_len, getD_sc, hg]
        congr 2
      · rw [if_neg h2, if_neg (by omega), gz]
  rw [e, vl_xr _ _ _ (by simp [sc_len]; omega), vl_append, vl_zeros, zero_tms, zx, vl_append, vl_rev, ev_sc, hx, tms_zero, zero_tms, zx, vl_zeros, xz]
where
  xr_len2 : ∀ u v : List R, (xr u v).length = min u.length v.length
  | [], v => by simp [xr]
  | a :: u, [] => by simp [xr]
  | a :: u, b :: v => by
    show (xr u v).length + 1 = _
    rw [xr_len2 u v, List.length_cons, List.length_cons]
    omega
  xr_get : ∀ (u v : List R) (k : Nat), k < u.length → k < v.length → (xr u v).getD k 0 = u.getD k 0 ^^^ v.getD k 0
  | [], v, k, h, _ => by simp at h
  | a :: u, [], k, _, h => by simp at h
  | a :: u, b :: v, 0, _, _ => rfl
  | a :: u, b :: v, k + 1, h, h' => xr_get u v k (by simpa using h) (by simpa using h')

/-- What the parity symbols of a word are. -/
def IsEnc (p : Nat) (d t : List R) : Prop := t.length = p ∧ Cw p (d ++ t)
theorem IsEnc.only {p : Nat} {d s t : List R} (h : IsEnc p d s) (k : IsEnc p d t) (hl : d.length + p ≤ 255) : s = t := h.2.only k.2 h.1 k.1 hl
/-- Behind i rounds of the long division. -/
structure DV (d : List R) (p i : Nat) (r : List R) : Prop where
  len : r.length = d.length + p
  zero : ∀ j, j < i → r.getD j 0 = 0
  val : ∀ t, t < p → vl r (it t 1) = vl (d ++ List.replicate p 0) (it t 1)
theorem DV.start (d : List R) (p : Nat) : DV d p 0 (d ++ List.replicate p 0) := ⟨by simp, fun j h => by omega, fun _ _ => rfl⟩
theorem DV.step {d r : List R} {p i : Nat} {L : R} (h : DV d p i r) (hi : i < d.length) (hL : r.getD i 0 = L) : DV d p (i + 1) (row r (gen p) i p L (p + 1)) := by
  refine ⟨by rw [row_len, h.len], fun j hj => ?_, fun t ht => ?_⟩
  · rw [row_get _ _ _ _ _ _ _ (by rw [h.len]; omega)]
    by_cases e : j = i
    · subst e
      rw [if_pos (by omega), hL, Nat.sub_self, Nat.sub_zero, gen_last, tms_one, xs]
    · rw [if_neg (by omega), h.zero j (by omega), xz]
  · rw [row_vl (q := d.length - 1 - i) (by rw [h.len]; omega) (gen_len p) (gen_root ht), h.val t ht]
theorem DV.done {d r : List R} {p : Nat} (h : DV d p d.length r) : IsEnc p d (r.drop d.length) := by
  refine ⟨by rw [List.length_drop, h.len]; omega, fun t ht => ?_⟩
  have e : r = List.replicate d.length 0 ++ r.drop d.length := by
    refine eq_getD (by simp; have := h.len; omega) fun j hj => ?_
    rw [getD_app, List.length_replicate]
    by_cases h1 : j < d.length
    · rw [if_pos h1, h.zero j h1, gz]
    · rw [if_neg h1]
      simp [List.getD_eq_getElem?_getD, List.getElem?_drop]
      congr 3
      omega
  have hv := h.val t ht
  rw [e, vl_append, vl_zeros, zero_tms, zx, vl_append, vl_zeros, xz, List.length_replicate] at hv
  rw [vl_append, List.length_drop, h.len, show d.length + p - d.length = p by omega, hv, xs]

/-! ### one step of the shift register -/
/-- Behind k of a step's p exchanges. -/
def shf (s g : List R) (p : Nat) (F : R) (k : Nat) : List R := tab s.length fun j => if j < k then s.getD (j + 1) 0 ^^^ tms F (g.getD (p - 1 - j) 0) else s.getD j 0
theorem shf_len (s g : List R) (p : Nat) (F : R) (k : Nat) : (shf s g p F k).length = s.length := tab_len _ _
theorem shf_get (s g : List R) (p : Nat) (F : R) (k j : Nat) (h : j < s.length) : (shf s g p F k).getD j 0 = if j < k then s.getD (j + 1) 0 ^^^ tms F (g.getD (p - 1 - j) 0) else s.getD j 0 := tab_get _ _ _ h
theorem shf_zero (s g : List R) (p : Nat) (F : R) : shf s g p F 0 = s := (tab_eq rfl fun j _ => by rw [if_neg (by omega)]).symm
theorem shf_at {s g : List R} {p k m : Nat} {F : R} (hm : m = k + 1) (h : m < s.length) : (shf s g p F k).getD m 0 = s.getD m 0 := by
  rw [shf_get _ _ _ _ _ _ h, if_neg (by omega)]
theorem shf_step {s g : List R} {p k m q : Nat} {F : R} (hm : m = k + 1) (hq : q = p - 1 - k) (h : k < s.length) : (shf s g p F k).set k (s.getD m 0 ^^^ tms F (g.getD q 0)) = shf s g p F (k + 1) := by
  subst hm hq
  unfold shf
  rw [tab_set _ _ _ _ h]
  refine tab_congr fun j hj => ?_
  by_cases e : j = k
  · subst e
    rw [if_pos rfl, if_pos (by omega)]
  · rw [if_neg e]
    by_cases e2 : j < k
    · rw [if_pos e2, if_pos (by omega)]
    · rw [if_neg e2, if_neg (by omega)]
theorem shf_vl {s g : List R} {p : Nat} {F x : R} (hp : p < s.length) (hz : s.getD p 0 = 0) (hg : g.length = p + 1) (hl : g.getD p 0 = 1) (hx : ev g x = 0) :
    vl ((shf s g p F p).take p) x = tms (vl (s.take p) x) x ^^^ tms (s.getD 0 0 ^^^ F) (pw x p) := by
  have e : (shf s g p F p).take p = xr ((s.drop 1).take p) (sc F (g.take p)).reverse := by
    have h1 : ((s.drop 1).take p).length = p := by simp; omega
    have h2 : (sc F (g.take p)).reverse.length = p := by simp [sc_len]; omega
    refine eq_getD (by rw [xr_len _ _ (by rw [h1, h2]), h1, List.length_take, shf_len]; omega) fun j hj => ?_
    have hj : j < p := by simp at hj; omega
    rw [row_vl.xr_get _ _ _ (by omega) (by omega), getD_take, if_pos hj, shf_get _ _ _ _ _ _ (by omega), if_pos hj, getD_take, if_pos hj]
    rw [getD_rev _ _ (by rw [sc_len, List.length_take]; omega), sc_len, getD_sc, getD_take, List.length_take, show min p g.length = p by omega, if_pos (by omega)]
    congr 1
    simp [List.getD_eq_getElem?_getD, List.getElem?_drop, Nat.add_comm]
  have h1 : ((s.drop 1).take p).length = p := by simp; omega
  rw [e, vl_xr _ _ _ (by simp [sc_len]; omega), vl_rev, ev_sc]
  have hv : vl (s.take (p + 1)) x = tms (vl (s.take p) x) x := by rw [G6.take_snoc s p hp, hz, vl_snoc, xz]
  have hv2 : vl (s.take (p + 1)) x = tms (s.getD 0 0) (pw x p) ^^^ vl ((s.drop 1).take p) x := by
    have : s.take (p + 1) = s.getD 0 0 :: (s.drop 1).take p := by
      rcases s with _ | ⟨a, s⟩
      · simp at hp
      · simp
    rw [this, vl_cons, h1]
  have hev : ev (g.take p) x = pw x p := by
    have := G6.ev_step g p (by omega) x
    rw [List.take_of_length_le (by omega), hx, hl, one_tms] at this
    exact xor_eq_zero this.symm
  rw [hev, ← hv, hv2, tms_a]
  simp only [BitVec.xor_assoc, BitVec.xor_comm, xac, xcan, xs, xz, zx]
/-- The register behind the data d. -/
structure SR (p : Nat) (d s : List R) : Prop where
  len : s.length = 65
  zero : ∀ j, p ≤ j → s.getD j 0 = 0
  val : ∀ t, t < p → vl (s.take p) (it t 1) = tms (vl d (it t 1)) (pw (it t 1) p)
theorem SR.start (p : Nat) (hp : p ≤ 64) : SR p [] (List.replicate 65 0) := ⟨by simp, fun j _ => gz _ _, fun t _ => by
  rw [List.take_replicate, vl_zeros]
  exact (zero_tms _).symm⟩
theorem SR.step {p : Nat} {d s : List R} {F X : R} (h : SR p d s) (hp1 : 1 ≤ p) (hp : p ≤ 64) (hF : s.getD 0 0 ^^^ X = F) : SR p (d ++ [X]) (shf s (gen p) p F p) := by
  refine ⟨by rw [shf_len, h.len], fun j hj => ?_, fun t ht => ?_⟩
  · by_cases h6 : j < 65
    · rw [shf_get _ _ _ _ _ _ (by rw [h.len]; exact h6), if_neg (by omega), h.zero j hj]
    · exact getD_far _ _ (by rw [shf_len, h.len]; omega)
  · rw [shf_vl (by rw [h.len]; omega) (h.zero p (Nat.le_refl _)) (gen_len p) (gen_last p) (gen_root ht), h.val t ht, ← hF, xcan, vl_snoc, tms_a]
    congr 1
    simp only [tms_assoc, tms_comm, tac]
theorem SR.done {p : Nat} {d s : List R} (h : SR p d s) (hp : p ≤ 64) : IsEnc p d (s.take p) := by
  have hl : (s.take p).length = p := by rw [List.length_take, h.len]; omega
  refine ⟨hl, fun t ht => ?_⟩
  rw [vl_append, hl, h.val t ht, xs]

/-! ### what the package's functions hand back -/
open Go.RowKit Mem
open G6 (IsSl) in
/-- The generator polynomial. -/
def Gend (p : Nat) (w : World) (e : Ending) (w' : World) : Prop := ∃ A c, e = .returned (.tuple #[.slice A (p + 1) c, .int .i64 0]) ∧ IsSl w' A c (gen p) ∧ Below w.heap.size w w'
/-- A code word. -/
def Encd (p : Nat) (d : List R) (w : World) (e : Ending) (w' : World) : Prop := ∃ t, IsEnc p d t ∧ e = .returned (.tuple #[.string (str (d ++ t)), .int .i64 0]) ∧ Below w.heap.size w w'
open G6 (IsSl) in
/-- The syndromes. -/
def Synd (p : Nat) (d : List R) (w : World) (e : Ending) (w' : World) : Prop := ∃ A c, e = .returned (.tuple #[.slice A p c, .int .i64 0]) ∧ IsSl w' A c (syn p d) ∧ Below w.heap.size w w'
/-- An answer without a slice, and the error's number. -/
def NoSl (k : Int) (w : World) (e : Ending) (w' : World) : Prop := e = .returned (.tuple #[.slice none 0 0, .int .i64 k]) ∧ w = w'
/-- An empty string, and the error's number. -/
def NoStr (k : Int) (w : World) (e : Ending) (w' : World) : Prop := e = .returned (.tuple #[.string ⟨#[]⟩, .int .i64 k]) ∧ Below w.heap.size w w'
end Go.Proofs.Ytkobcffkgaodbaa.G7
