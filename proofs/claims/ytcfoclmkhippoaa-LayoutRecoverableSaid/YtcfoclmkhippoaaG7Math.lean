/- Plain facts for layer 7 (reedsolomon): words, their values, code words, the distance of two code words. No program is named here. -/
import Derived.Test.YtcfoclmkhippoaaG6More
namespace Go.Proofs.Ytcfoclmkhippoaa.G7
set_option maxRecDepth 100000
open Go.Proofs.Ytcfoclmkhippoaa.G5
open Go.Proofs.Ytcfoclmkhippoaa.G6 (ev ev_nil ev_cons ev_append ev_snoc ev_one xz zx xac xcan tac tms_ne one_ne prodL prodL_len prodL_zero prodL_tr)
set_option linter.unusedVariables false
set_option linter.unusedSimpArgs false

theorem xs (a : R) : a ^^^ a = 0 := BitVec.xor_self

/-! ### the value of a word -/
def vl (w : List R) (x : R) : R := w.foldl (fun a c => tms a x ^^^ c) 0
theorem vl_nil (x : R) : vl [] x = 0 := rfl
theorem vl_snoc (w : List R) (c x : R) : vl (w ++ [c]) x = tms (vl w x) x ^^^ c := by simp [vl]
theorem vl_rev (x : R) : ∀ l : List R, vl l.reverse x = ev l x
  | [] => rfl
  | a :: l => by
    rw [List.reverse_cons, vl_snoc, vl_rev x l, ev_cons, tms_comm, BitVec.xor_comm]
theorem vl_ev (w : List R) (x : R) : vl w x = ev w.reverse x := by rw [← vl_rev, List.reverse_reverse]
theorem vl_append (u v : List R) (x : R) : vl (u ++ v) x = tms (vl u x) (pw x v.length) ^^^ vl v x := by
  rw [vl_ev, List.reverse_append, ev_append, ← vl_ev, ← vl_ev, List.length_reverse, tms_comm, BitVec.xor_comm]
theorem vl_zeros (n : Nat) (x : R) : vl (List.replicate n 0) x = 0 := by
  rw [vl_ev, List.reverse_replicate]
  exact G6.ev_zeros n x

/-! ### the exclusive or of two words -/
def xr : List R → List R → List R
  | a :: u, b :: v => (a ^^^ b) :: xr u v
  | _, _ => []
theorem xr_len : ∀ u v : List R, u.length = v.length → (xr u v).length = u.length
  | [], [], _ => rfl
  | a :: u, b :: v, h => by
    show (xr u v).length + 1 = u.length + 1
    rw [xr_len u v (by simpa using h)]
  | [], b :: v, h => by simp at h
  | a :: u, [], h => by simp at h
theorem xr_append : ∀ u v s t : List R, u.length = v.length → xr (u ++ s) (v ++ t) = xr u v ++ xr s t
  | [], [], s, t, _ => rfl
  | a :: u, b :: v, s, t, h => by
    show (a ^^^ b) :: xr (u ++ s) (v ++ t) = (a ^^^ b) :: (xr u v ++ xr s t)
    rw [xr_append u v s t (by simpa using h)]
  | [], b :: v, _, _, h => by simp at h
  | a :: u, [], _, _, h => by simp at h
theorem xr_self : ∀ u : List R, xr u u = List.replicate u.length 0
  | [] => rfl
  | a :: u => by
    show (a ^^^ a) :: xr u u = _
    rw [xs, xr_self u]
    rfl
theorem xr_zero : ∀ u v : List R, u.length = v.length → (∀ a ∈ xr u v, a = 0) → u = v
  | [], [], _, _ => rfl
  | a :: u, b :: v, h, hz => by
    rw [xor_eq_zero (hz (a ^^^ b) (by show _ ∈ (a ^^^ b) :: xr u v; simp)), xr_zero u v (by simpa using h) fun c hc => hz c (by show _ ∈ (a ^^^ b) :: xr u v; simp [hc])]
  | [], b :: v, h, _ => by simp at h
  | a :: u, [], h, _ => by simp at h
theorem vl_from (x : R) : ∀ (u : List R) (s : R), u.foldl (fun a c => tms a x ^^^ c) s = tms s (pw x u.length) ^^^ vl u x
  | [], s => by show s = tms s 1 ^^^ 0; rw [tms_one, xz]
  | a :: u, s => by
    have h1 := vl_from x u (tms s x ^^^ a)
    have h2 := vl_from x u (tms 0 x ^^^ a)
    show u.foldl (fun a c => tms a x ^^^ c) (tms s x ^^^ a) = tms s (tms (pw x u.length) x) ^^^ u.foldl (fun a c => tms a x ^^^ c) (tms 0 x ^^^ a)
    rw [h1, h2, zero_tms, zx, tms_a, tms_assoc, tms_comm x, BitVec.xor_assoc]
theorem vl_cons (a : R) (u : List R) (x : R) : vl (a :: u) x = tms a (pw x u.length) ^^^ vl u x := by
  show u.foldl _ (tms 0 x ^^^ a) = _
  rw [vl_from, zero_tms, zx]
theorem vl_xr (x : R) : ∀ u v : List R, u.length = v.length → vl (xr u v) x = vl u x ^^^ vl v x
  | [], [], _ => by rw [show xr [] [] = ([] : List R) from rfl, vl_nil, xs]
  | a :: u, b :: v, h => by
    have h' : u.length = v.length := by simpa using h
    rw [show xr (a :: u) (b :: v) = (a ^^^ b) :: xr u v from rfl, vl_cons, vl_cons, vl_cons, vl_xr x u v h', xr_len u v h', ← h', tms_a, xor4r]
  | [], b :: v, h => by simp at h
  | a :: u, [], h => by simp at h

/-! ### how many symbols are not zero -/
def wt (w : List R) : Nat := (w.filter fun a => !(a == 0)).length
theorem wt_append (u v : List R) : wt (u ++ v) = wt u + wt v := by simp [wt]
theorem wt_le (u : List R) : wt u ≤ u.length := List.length_filter_le _ _
theorem wt_zeros (n : Nat) : wt (List.replicate n 0) = 0 := by
  induction n with
  | zero => rfl
  | succ n ih => rw [List.replicate_succ, show wt (0 :: List.replicate n 0) = wt (List.replicate n 0) from rfl, ih]
theorem wt_reverse (u : List R) : wt u.reverse = wt u := by simp [wt]
theorem wt_cons (a : R) (u : List R) : wt (a :: u) = (if a = 0 then 0 else 1) + wt u := by
  unfold wt
  by_cases h : a = 0
  · rw [if_pos h, List.filter_cons_of_neg (by simp [h])]
    omega
  · rw [if_neg h, List.filter_cons_of_pos (by simpa using h), List.length_cons]
    omega
theorem wt_set (b : R) : ∀ (u : List R) (i : Nat), wt (u.set i b) ≤ wt u + 1
  | [], i => by simp [wt]
  | a :: u, 0 => by
    rw [List.set_cons_zero, wt_cons, wt_cons]
    split <;> split <;> omega
  | a :: u, i + 1 => by
    rw [List.set_cons_succ, wt_cons, wt_cons]
    have := wt_set b u i
    omega

/-! ### few symbols, many zeros: the Vandermonde argument, by polynomials -/
/-- The sum of a_k * (2^(j+k))^s * f(2^(j+k)). -/
def sm (f : List R) (s : Nat) : List R → Nat → R
  | [], _ => 0
  | a :: l, j => tms (tms a (it (j * s) 1)) (ev f (it j 1)) ^^^ sm f s l (j + 1)
theorem sm_one (s : Nat) : ∀ (l : List R) (j : Nat), sm [1] s l j = tms (it (j * s) 1) (ev l (it s 1))
  | [], j => by show (0 : R) = tms _ 0; rw [tms_zero]
  | a :: l, j => by
    show tms (tms a (it (j * s) 1)) (ev [1] (it j 1)) ^^^ sm [1] s l (j + 1) = _
    rw [ev_one, tms_one, sm_one s l (j + 1), ev_cons, tms_b, tms_comm a, show (j + 1) * s = j * s + s by rw [Nat.succ_mul], ← it_tms, tms_assoc]
theorem sm_nil (s : Nat) : ∀ (l : List R) (j : Nat), sm [] s l j = 0
  | [], j => rfl
  | a :: l, j => by
    show tms _ (ev [] _) ^^^ sm [] s l (j + 1) = 0
    rw [ev_nil, tms_zero, sm_nil s l (j + 1), xs]
theorem sm_cons (c : R) (f : List R) (s : Nat) : ∀ (l : List R) (j : Nat), sm (c :: f) s l j = tms c (sm [1] s l j) ^^^ sm f (s + 1) l j
  | [], j => by show (0 : R) = tms c 0 ^^^ 0; rw [tms_zero, xs]
  | a :: l, j => by
    show tms (tms a (it (j * s) 1)) (ev (c :: f) (it j 1)) ^^^ sm (c :: f) s l (j + 1) = tms c (tms (tms a (it (j * s) 1)) (ev [1] (it j 1)) ^^^ sm [1] s l (j + 1)) ^^^ (tms (tms a (it (j * (s + 1)) 1)) (ev f (it j 1)) ^^^ sm f (s + 1) l (j + 1))
    rw [sm_cons c f s l (j + 1), ev_one, tms_one, ev_cons, tms_b, tms_b, show j * (s + 1) = j * s + j by rw [Nat.mul_succ], ← it_tms, tms_comm c (tms a _)]
    rw [show tms (tms a (tms (it (j * s) 1) (it j 1))) (ev f (it j 1)) = tms (tms a (it (j * s) 1)) (tms (it j 1) (ev f (it j 1))) by rw [← tms_assoc, tms_assoc]]
    rw [xor4r]
theorem sm_zero {p : Nat} {l : List R} (h : ∀ i, i < p → ev l (it i 1) = 0) : ∀ (f : List R) (s : Nat), f.length + s ≤ p → sm f s l 0 = 0
  | [], s, _ => sm_nil s l 0
  | c :: f, s, hs => by
    rw [sm_cons, sm_one, h s (by simp at hs; omega), tms_zero, tms_zero, zx]
    exact sm_zero h f (s + 1) (by simp at hs; omega)
theorem sm_single (f : List R) (j0 : Nat) : ∀ (l : List R) (j : Nat), j ≤ j0 → j0 < j + l.length → (∀ k, k < l.length → j + k ≠ j0 → l.getD k 0 = 0 ∨ ev f (it (j + k) 1) = 0) → sm f 0 l j = tms (l.getD (j0 - j) 0) (ev f (it j0 1))
  | [], j, h1, h2, _ => by simp at h2; omega
  | a :: l, j, h1, h2, h => by
    show tms (tms a (it (j * 0) 1)) (ev f (it j 1)) ^^^ sm f 0 l (j + 1) = _
    rw [show it (j * 0) 1 = 1 from by rw [Nat.mul_zero]; rfl, tms_one]
    by_cases hj : j = j0
    · subst hj
      have hz : ∀ (l : List R) (i : Nat), (∀ k, k < l.length → l.getD k 0 = 0 ∨ ev f (it (i + k) 1) = 0) → sm f 0 l i = 0 := by
        intro l
        induction l with
        | nil => intro i _; rfl
        | cons b l ih =>
          intro i hb
          show tms (tms b (it (i * 0) 1)) (ev f (it i 1)) ^^^ sm f 0 l (i + 1) = 0
          rw [show it (i * 0) 1 = 1 from by rw [Nat.mul_zero]; rfl, tms_one, ih (i + 1) fun k hk => by
            have := hb (k + 1) (by simp; omega)
            rwa [show i + (k + 1) = i + 1 + k by omega] at this]
          rcases hb 0 (by simp) with h0 | h0
          · have h0 : b = 0 := h0
            rw [h0, zero_tms, xs]
          · rw [show ev f (it i 1) = 0 from h0, tms_zero, xs]
      rw [hz l (j + 1) fun k hk => by
        have := h (k + 1) (by simp; omega) (by omega)
        rwa [show j + (k + 1) = j + 1 + k by omega] at this, xz, Nat.sub_self]
      rfl
    · have ha : tms a (ev f (it j 1)) = 0 := by
        rcases h 0 (by simp) (by omega) with h0 | h0
        · have h0 : a = 0 := h0
          rw [h0, zero_tms]
        · rw [show ev f (it j 1) = 0 from h0, tms_zero]
      rw [ha, zx, sm_single f j0 l (j + 1) (by omega) (by simp at h2; omega) fun k hk hne => by
        have := h (k + 1) (by simp; omega) (by omega)
        rwa [show j + (k + 1) = j + 1 + k by omega] at this]
      rw [show j0 - j = (j0 - (j + 1)) + 1 by omega]
      rfl
/-- The places of the symbols that are not zero. -/
def nz : List R → Nat → List R
  | [], _ => []
  | a :: l, j => if a = 0 then nz l (j + 1) else it j 1 :: nz l (j + 1)
theorem nz_len : ∀ (l : List R) (j : Nat), (nz l j).length = wt l
  | [], j => rfl
  | a :: l, j => by
    rw [wt_cons]
    show (if a = 0 then nz l (j + 1) else it j 1 :: nz l (j + 1)).length = _
    split
    · rw [nz_len l (j + 1)]; omega
    · rw [List.length_cons, nz_len l (j + 1)]; omega
theorem nz_mem : ∀ (l : List R) (j k : Nat), k < l.length → l.getD k 0 ≠ 0 → it (j + k) 1 ∈ nz l j
  | [], j, k, h, _ => by simp at h
  | a :: l, j, 0, _, hne => by
    show _ ∈ (if a = 0 then nz l (j + 1) else it j 1 :: nz l (j + 1))
    rw [if_neg (show a ≠ 0 from hne)]
    simp
  | a :: l, j, k + 1, h, hne => by
    have := nz_mem l (j + 1) k (by simpa using h) hne
    rw [show j + 1 + k = j + (k + 1) by omega] at this
    show _ ∈ (if a = 0 then nz l (j + 1) else it j 1 :: nz l (j + 1))
    split
    · exact this
    · exact List.mem_cons_of_mem _ this
theorem filter_lt {x : R} : ∀ L : List R, x ∈ L → (L.filter fun y => !(y == x)).length < L.length
  | [], h => by cases h
  | y :: L, h => by
    by_cases hy : y = x
    · rw [List.filter_cons_of_neg (by simp [hy]), List.length_cons]
      have := List.length_filter_le (fun y => !(y == x)) L
      omega
    · rw [List.filter_cons_of_pos (by simpa using hy), List.length_cons, List.length_cons]
      have := filter_lt L (by rcases List.mem_cons.1 h with e | h; exact absurd e.symm hy; exact h)
      omega
/-- A word of at most 255 symbols whose first p values at the powers of the generator are zero, and in which at most p symbols are not zero, is zero. -/
theorem few_symbols {p : Nat} {l : List R} (hl : l.length ≤ 255) (h : ∀ i, i < p → ev l (it i 1) = 0) (hw : wt l ≤ p) : ∀ k, l.getD k 0 = 0 := by
  intro j0
  by_cases hj : j0 < l.length
  · by_cases h0 : l.getD j0 0 = 0
    · exact h0
    · exfalso
      have hm : it j0 1 ∈ nz l 0 := by
        have := nz_mem l 0 j0 hj h0
        rwa [Nat.zero_add] at this
      obtain ⟨Z, hZ⟩ : ∃ Z, (nz l 0).filter (fun y => !(y == it j0 1)) = Z := ⟨_, rfl⟩
      have hlen : Z.length < wt l := by rw [← hZ, ← nz_len l 0]; exact filter_lt _ hm
      have hz := sm_zero h (prodL Z) 0 (by rw [prodL_len]; omega)
      rw [sm_single (prodL Z) j0 l 0 (Nat.zero_le _) (by omega) fun k hk hne => by
        by_cases hk0 : l.getD k 0 = 0
        · exact .inl hk0
        · refine .inr ?_
          rw [prodL_zero, ← hZ, List.mem_filter]
          refine ⟨nz_mem l 0 k hk hk0, ?_⟩
          have : it (0 + k) 1 ≠ it j0 1 := fun e => hne (by rw [Nat.zero_add] at e ⊢; exact it_same (by omega) (by omega) e)
          simpa using this] at hz
      rcases tms_eq_zero hz with h1 | h1
      · exact h0 h1
      · rw [prodL_zero, ← hZ, List.mem_filter] at h1
        simp at h1
  · simp [List.getD_eq_getElem?_getD, List.getElem?_eq_none (show l.length ≤ j0 by omega)]

/-! ### code words -/
def Cw (p : Nat) (w : List R) : Prop := ∀ i, i < p → vl w (it i 1) = 0
theorem Cw.sum {p : Nat} {u v : List R} (hu : Cw p u) (hv : Cw p v) (h : u.length = v.length) : Cw p (xr u v) := fun i hi => by
  rw [vl_xr _ u v h, hu i hi, hv i hi, xs]
theorem Cw.zero {p : Nat} {w : List R} (hc : Cw p w) (hl : w.length ≤ 255) (hw : wt w ≤ p) : ∀ a ∈ w, a = 0 := by
  have h := few_symbols (l := w.reverse) (by simpa using hl) (fun i hi => by rw [← vl_ev]; exact hc i hi) (by rw [wt_reverse]; exact hw)
  intro a ha
  obtain ⟨k, hk, rfl⟩ := List.getElem_of_mem (List.mem_reverse.2 ha)
  have := h k
  rwa [List.getD_eq_getElem?_getD, List.getElem?_eq_getElem hk] at this
/-- Two code words of equal length that differ in at most p symbols are equal. -/
theorem Cw.same {p : Nat} {u v : List R} (hu : Cw p u) (hv : Cw p v) (h : u.length = v.length) (hl : u.length ≤ 255) (hd : wt (xr u v) ≤ p) : u = v :=
  xr_zero u v h ((hu.sum hv h).zero (by rw [xr_len u v h]; exact hl) hd)
/-- A code word is fixed by its data. -/
theorem Cw.only {p : Nat} {d s t : List R} (hu : Cw p (d ++ s)) (hv : Cw p (d ++ t)) (hs : s.length = p) (ht : t.length = p) (hl : d.length + p ≤ 255) : s = t := by
  have h := hu.same hv (by simp; omega) (by simp; omega) (by
    rw [xr_append d d s t rfl, xr_self, wt_append, wt_zeros]
    have := wt_le (xr s t)
    rw [xr_len s t (hs.trans ht.symm)] at this
    omega)
  exact List.append_cancel_left h
theorem Cw.front {p : Nat} {w : List R} (h : Cw p w) (n : Nat) : Cw p (List.replicate n 0 ++ w) := fun i hi => by
  rw [vl_append, vl_zeros, zero_tms, zx, h i hi]
end Go.Proofs.Ytcfoclmkhippoaa.G7
