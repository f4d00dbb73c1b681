/- Facts and contracts that the walks of this layer use, merged: G7Math, G7More, G7El, G7Tab, G7Own1, G7Own2, G7Own3, G7Own4. -/
import Derived.Test.YtiodkllckcpinaaGreatDoorM14AI
import Derived.Test.YtiodkllckcpinaaGreatDoorM14AH
set_option linter.unusedVariables false
set_option linter.unusedSimpArgs false
set_option maxRecDepth 100000
namespace Go.Proofs.YtiodkllckcpinaaGreatDoor
namespace G7
open G5
open G6 (ev ev_nil ev_cons ev_append ev_snoc ev_one xz zx xac xcan tac tms_ne one_ne prodL prodL_len prodL_zero prodL_tr)

theorem xs (a : R) : a ^^^ a = 0 := BitVec.xor_self

/-! ### the value of a word -/
def vl (w : List R) (x : R) : R := w.foldl (fun a c => tms a x ^^^ c) 0
theorem vl_nil (x : R) : vl [] x = 0 := rfl
theorem vl_snoc (w : List R) (c x : R) : vl (w ++ [c]) x = tms (vl w x) x ^^^ c := by simp [vl]
theorem vl_rev (x : R) : ∀ l : List R, vl l.reverse x = ev l x
 | [] => rfl
 | a :: l => by
  rw [List.reverse_cons, vl_snoc, vl_rev x l, ev_cons, tms_comm, BitVec.xor_comm]
theorem vl_ev (w : List R) (x : R) : vl w x = ev w.reverse x := by rw [← vl_rev, List.reverse_reverse]
theorem vl_append (u v : List R) (x : R) : vl (u ++ v) x = tms (vl u x) (pw x v.length) ^^^ vl v x := by
 rw [vl_ev, List.reverse_append, ev_append, ← vl_ev, ← vl_ev, List.length_reverse, tms_comm, BitVec.xor_comm]
theorem vl_zeros (n : Nat) (x : R) : vl (List.replicate n 0) x = 0 := by
 rw [vl_ev, List.reverse_replicate]
 exact G6.ev_zeros n x

/-! ### the exclusive or of two words -/
def xr : List R → List R → List R
 | a :: u, b :: v => (a ^^^ b) :: xr u v
 | _, _ => []
theorem xr_len : ∀ u v : List R, u.length = v.length → (xr u v).length = u.length
 | [], [], _ => rfl
 | a :: u, b :: v, h => by
  show (xr u v).length + 1 = u.length + 1
  rw [xr_len u v (by simpa using h)]
 | [], b :: v, h => by simp at h
 | a :: u, [], h => by simp at h
theorem xr_append : ∀ u v s t : List R, u.length = v.length → xr (u ++ s) (v ++ t) = xr u v ++ xr s t
 | [], [], s, t, _ => rfl
 | a :: u, b :: v, s, t, h => by
  show (a ^^^ b) :: xr (u ++ s) (v ++ t) = (a ^^^ b) :: (xr u v ++ xr s t)
  rw [xr_append u v s t (by simpa using h)]
 | [], b :: v, _, _, h => by simp at h
 | a :: u, [], _, _, h => by simp at h
theorem xr_self : ∀ u : List R, xr u u = List.replicate u.length 0
 | [] => rfl
 | a :: u => by
  show (a ^^^ a) :: xr u u = _
  rw [xs, xr_self u]
  rfl
theorem xr_zero : ∀ u v : List R, u.length = v.length → (∀ a ∈ xr u v, a = 0) → u = v
 | [], [], _, _ => rfl
 | a :: u, b :: v, h, hz => by
  rw [xor_eq_zero (hz (a ^^^ b) (by show _ ∈ (a ^^^ b) :: xr u v; simp)), xr_zero u v (by simpa using h) fun c hc => hz c (by show _ ∈ (a ^^^ b) :: xr u v; simp [hc])]
 | [], b :: v, h, _ => by simp at h
 | a :: u, [], h, _ => by simp at h
theorem vl_from (x : R) : ∀ (u : List R) (s : R), u.foldl (fun a c => tms a x ^^^ c) s = tms s (pw x u.length) ^^^ vl u x
 | [], s => by show s = tms s 1 ^^^ 0; rw [tms_one, xz]
 | a :: u, s => by
  have h1 := vl_from x u (tms s x ^^^ a)
  have h2 := vl_from x u (tms 0 x ^^^ a)
  show u.foldl (fun a c => tms a x ^^^ c) (tms s x ^^^ a) = tms s (tms (pw x u.length) x) ^^^ u.foldl (fun a c => tms a x ^^^ c) (tms 0 x ^^^ a)
  rw [h1, h2, zero_tms, zx, tms_a, tms_assoc, tms_comm x, BitVec.xor_assoc]
theorem vl_cons (a : R) (u : List R) (x : R) : vl (a :: u) x = tms a (pw x u.length) ^^^ vl u x := by
 show u.foldl _ (tms 0 x ^^^ a) = _
 rw [vl_from, zero_tms, zx]
theorem vl_xr (x : R) : ∀ u v : List R, u.length = v.length → vl (xr u v) x = vl u x ^^^ vl v x
 | [], [], _ => by rw [show xr [] [] = ([] : List R) from rfl, vl_nil, xs]
 | a :: u, b :: v, h => by
  have h' : u.length = v.length := by simpa using h
  rw [show xr (a :: u) (b :: v) = (a ^^^ b) :: xr u v from rfl, vl_cons, vl_cons, vl_cons, vl_xr x u v h', xr_len u v h', ← h', tms_a, xor4r]
 | [], b :: v, h => by simp at h
 | a :: u, [], h => by simp at h

/-! ### how many symbols are not zero -/
def wt (w : List R) : Nat := (w.filter fun a => !(a == 0)).length
theorem wt_append (u v : List R) : wt (u ++ v) = wt u + wt v := by simp [wt]
theorem wt_le (u : List R) : wt u ≤ u.length := List.length_filter_le _ _
theorem wt_zeros (n : Nat) : wt (List.replicate n 0) = 0 := by
 induction n with
 | zero => rfl
 | succ n ih => rw [List.replicate_succ, show wt (0 :: List.replicate n 0) = wt (List.replicate n 0) from rfl, ih]
theorem wt_reverse (u : List R) : wt u.reverse = wt u := by simp [wt]
theorem wt_cons (a : R) (u : List R) : wt (a :: u) = (if a = 0 then 0 else 1) + wt u := by
 unfold wt
 by_cases h : a = 0
 ·rw [if_pos h, List.filter_cons_of_neg (by simp [h])]
  omega
 ·rw [if_neg h, List.filter_cons_of_pos (by simpa using h), List.length_cons]
  omega
/-! ### few symbols, many zeros: the Vandermonde argument, by polynomials -/
/-- The sum of a_k * (2^(j+k))^s * f(2^(j+k)). -/
def sm (f : List R) (s : Nat) : List R → Nat → R
 | [], _ => 0
 | a :: l, j => tms (tms a (it (j * s) 1)) (ev f (it j 1)) ^^^ sm f s l (j + 1)
theorem sm_one (s : Nat) : ∀ (l : List R) (j : Nat), sm [1] s l j = tms (it (j * s) 1) (ev l (it s 1))
 | [], j => by show (0 : R) = tms _ 0; rw [tms_zero]
 | a :: l, j => by
  show tms (tms a (it (j * s) 1)) (ev [1] (it j 1)) ^^^ sm [1] s l (j + 1) = _
  rw [ev_one, tms_one, sm_one s l (j + 1), ev_cons, tms_b, tms_comm a, show (j + 1) * s = j * s + s by rw [Nat.succ_mul], ← it_tms, tms_assoc]
theorem sm_nil (s : Nat) : ∀ (l : List R) (j : Nat), sm [] s l j = 0
 | [], j => rfl
 | a :: l, j => by
  show tms _ (ev [] _) ^^^ sm [] s l (j + 1) = 0
  rw [ev_nil, tms_zero, sm_nil s l (j + 1), xs]
theorem sm_cons (c : R) (f : List R) (s : Nat) : ∀ (l : List R) (j : Nat), sm (c :: f) s l j = tms c (sm [1] s l j) ^^^ sm f (s + 1) l j
 | [], j => by show (0 : R) = tms c 0 ^^^ 0; rw [tms_zero, xs]
 | a :: l, j => by
  show tms (tms a (it (j * s) 1)) (ev (c :: f) (it j 1)) ^^^ sm (c :: f) s l (j + 1) = tms c (tms (tms a (it (j * s) 1)) (ev [1] (it j 1)) ^^^ sm [1] s l (j + 1)) ^^^ (tms (tms a (it (j * (s + 1)) 1)) (ev f (it j 1)) ^^^ sm f (s + 1) l (j + 1))
  rw [sm_cons c f s l (j + 1), ev_one, tms_one, ev_cons, tms_b, tms_b, show j * (s + 1) = j * s + j by rw [Nat.mul_succ], ← it_tms, tms_comm c (tms a _)]
  rw [show tms (tms a (tms (it (j * s) 1) (it j 1))) (ev f (it j 1)) = tms (tms a (it (j * s) 1)) (tms (it j 1) (ev f (it j 1))) by rw [← tms_assoc, tms_assoc]]
  rw [xor4r]
theorem sm_zero {p : Nat} {l : List R} (h : ∀ i, i < p → ev l (it i 1) = 0) : ∀ (f : List R) (s : Nat), f.length + s ≤ p → sm f s l 0 = 0
 | [], s, _ => sm_nil s l 0
 | c :: f, s, hs => by
  rw [sm_cons, sm_one, h s (by simp at hs; omega), tms_zero, tms_zero, zx]
  exact sm_zero h f (s + 1) (by simp at hs; omega)
theorem sm_single (f : List R) (j0 : Nat) : ∀ (l : List R) (j : Nat), j ≤ j0 → j0 < j + l.length → (∀ k, k < l.length → j + k ≠ j0 → l.getD k 0 = 0 ∨ ev f (it (j + k) 1) = 0) → sm f 0 l j = tms (l.getD (j0 - j) 0) (ev f (it j0 1))
 | [], j, h1, h2, _ => by simp at h2; omega
 | a :: l, j, h1, h2, h => by
  show tms (tms a (it (j * 0) 1)) (ev f (it j 1)) ^^^ sm f 0 l (j + 1) = _
  rw [show it (j * 0) 1 = 1 from by rw [Nat.mul_zero]; rfl, tms_one]
  by_cases hj : j = j0
  ·subst hj
   have hz : ∀ (l : List R) (i : Nat), (∀ k, k < l.length → l.getD k 0 = 0 ∨ ev f (it (i + k) 1) = 0) → sm f 0 l i = 0 := by
    intro l
    induction l with
    | nil => intro i _; rfl
    | cons b l ih =>
     intro i hb
     show tms (tms b (it (i * 0) 1)) (ev f (it i 1)) ^^^ sm f 0 l (i + 1) = 0
     rw [show it (i * 0) 1 = 1 from by rw [Nat.mul_zero]; rfl, tms_one, ih (i + 1) fun k hk => by
      have := hb (k + 1) (by simp; omega)
      rwa [show i + (k + 1) = i + 1 + k by omega] at this]
     rcases hb 0 (by simp) with h0 | h0
     ·have h0 : b = 0 := h0
      rw [h0, zero_tms, xs]
     ·rw [show ev f (it i 1) = 0 from h0, tms_zero, xs]
   rw [hz l (j + 1) fun k hk => by
    have := h (k + 1) (by simp; omega) (by omega)
    rwa [show j + (k + 1) = j + 1 + k by omega] at this, xz, Nat.sub_self]
   rfl
  ·have ha : tms a (ev f (it j 1)) = 0 := by
    rcases h 0 (by simp) (by omega) with h0 | h0
    ·have h0 : a = 0 := h0
     rw [h0, zero_tms]
    ·rw [show ev f (it j 1) = 0 from h0, tms_zero]
   rw [ha, zx, sm_single f j0 l (j + 1) (by omega) (by simp at h2; omega) fun k hk hne => by
    have := h (k + 1) (by simp; omega) (by omega)
    rwa [show j + (k + 1) = j + 1 + k by omega] at this]
   rw [show j0 - j = (j0 - (j + 1)) + 1 by omega]
   rfl
def nz : List R → Nat → List R
 | [], _ => []
 | a :: l, j => if a = 0 then nz l (j + 1) else it j 1 :: nz l (j + 1)
theorem nz_len : ∀ (l : List R) (j : Nat), (nz l j).length = wt l
 | [], j => rfl
 | a :: l, j => by
  rw [wt_cons]
  show (if a = 0 then nz l (j + 1) else it j 1 :: nz l (j + 1)).length = _
  split
  ·rw [nz_len l (j + 1)]; omega
  ·rw [List.length_cons, nz_len l (j + 1)]; omega
theorem nz_mem : ∀ (l : List R) (j k : Nat), k < l.length → l.getD k 0 ≠ 0 → it (j + k) 1 ∈ nz l j
 | [], j, k, h, _ => by simp at h
 | a :: l, j, 0, _, hne => by
  show _ ∈ (if a = 0 then nz l (j + 1) else it j 1 :: nz l (j + 1))
  rw [if_neg (show a ≠ 0 from hne)]
  simp
 | a :: l, j, k + 1, h, hne => by
  have := nz_mem l (j + 1) k (by simpa using h) hne
  rw [show j + 1 + k = j + (k + 1) by omega] at this
  show _ ∈ (if a = 0 then nz l (j + 1) else it j 1 :: nz l (j + 1))
  split
  ·exact this
  ·exact List.mem_cons_of_mem _ this
theorem filter_lt {x : R} : ∀ L : List R, x ∈ L → (L.filter fun y => !(y == x)).length < L.length
 | [], h => by cases h
 | y :: L, h => by
  by_cases hy : y = x
  ·rw [List.filter_cons_of_neg (by simp [hy]), List.length_cons]
   have := List.length_filter_le (fun y => !(y == x)) L
   omega
  ·rw [List.filter_cons_of_pos (by simpa using hy), List.length_cons, List.length_cons]
   have := filter_lt L (by rcases List.mem_cons.1 h with e | h; exact absurd e.symm hy; exact h)
   omega
theorem few_symbols {p : Nat} {l : List R} (hl : l.length ≤ 255) (h : ∀ i, i < p → ev l (it i 1) = 0) (hw : wt l ≤ p) : ∀ k, l.getD k 0 = 0 := by
 intro j0
 by_cases hj : j0 < l.length
 ·by_cases h0 : l.getD j0 0 = 0
  ·exact h0
  ·exfalso
   have hm : it j0 1 ∈ nz l 0 := by
    have := nz_mem l 0 j0 hj h0
    rwa [Nat.zero_add] at this
   obtain ⟨Z, hZ⟩ : ∃ Z, (nz l 0).filter (fun y => !(y == it j0 1)) = Z := ⟨_, rfl⟩
   have hlen : Z.length < wt l := by rw [← hZ, ← nz_len l 0]; exact filter_lt _ hm
   have hz := sm_zero h (prodL Z) 0 (by rw [prodL_len]; omega)
   rw [sm_single (prodL Z) j0 l 0 (Nat.zero_le _) (by omega) fun k hk hne => by
    by_cases hk0 : l.getD k 0 = 0
    ·exact .inl hk0
    ·refine .inr ?_
     rw [prodL_zero, ← hZ, List.mem_filter]
     refine ⟨nz_mem l 0 k hk hk0, ?_⟩
     have : it (0 + k) 1 ≠ it j0 1 := fun e => hne (by rw [Nat.zero_add] at e ⊢; exact it_same (by omega) (by omega) e)
     simpa using this] at hz
   rcases tms_eq_zero hz with h1 | h1
   ·exact h0 h1
   ·rw [prodL_zero, ← hZ, List.mem_filter] at h1
    simp at h1
 ·simp [List.getD_eq_getElem?_getD, List.getElem?_eq_none (show l.length ≤ j0 by omega)]

/-! ### code words -/
def Cw (p : Nat) (w : List R) : Prop := ∀ i, i < p → vl w (it i 1) = 0
theorem Cw.sum {p : Nat} {u v : List R} (hu : Cw p u) (hv : Cw p v) (h : u.length = v.length) : Cw p (xr u v) := fun i hi => by
 rw [vl_xr _ u v h, hu i hi, hv i hi, xs]
theorem Cw.zero {p : Nat} {w : List R} (hc : Cw p w) (hl : w.length ≤ 255) (hw : wt w ≤ p) : ∀ a ∈ w, a = 0 := by
 have h := few_symbols (l := w.reverse) (by simpa using hl) (fun i hi => by rw [← vl_ev]; exact hc i hi) (by rw [wt_reverse]; exact hw)
 intro a ha
 obtain ⟨k, hk, rfl⟩ := List.getElem_of_mem (List.mem_reverse.2 ha)
 have := h k
 rwa [List.getD_eq_getElem?_getD, List.getElem?_eq_getElem hk] at this
theorem Cw.same {p : Nat} {u v : List R} (hu : Cw p u) (hv : Cw p v) (h : u.length = v.length) (hl : u.length ≤ 255) (hd : wt (xr u v) ≤ p) : u = v :=
 xr_zero u v h ((hu.sum hv h).zero (by rw [xr_len u v h]; exact hl) hd)
theorem Cw.only {p : Nat} {d s t : List R} (hu : Cw p (d ++ s)) (hv : Cw p (d ++ t)) (hs : s.length = p) (ht : t.length = p) (hl : d.length + p ≤ 255) : s = t := by
 have h := hu.same hv (by simp; omega) (by simp; omega) (by
  rw [xr_append d d s t rfl, xr_self, wt_append, wt_zeros]
  have := wt_le (xr s t)
  rw [xr_len s t (hs.trans ht.symm)] at this
  omega)
 exact List.append_cancel_left h
end G7
namespace G7
open G5
open G6 (ev ev_nil ev_cons ev_append ev_snoc ev_one xz zx xac xcan tac tms_ne one_ne prodL prodL_len prodL_zero prodL_tr prodL_snoc mulL ev_mulL ev_lin Tr)

theorem ev_set (x c : R) : ∀ (l : List R) (i : Nat), i < l.length → ev (l.set i c) x = ev l x ^^^ tms (pw x i) (l.getD i 0 ^^^ c)
 | [], i, h => by simp at h
 | a :: l, 0, _ => by
  show c ^^^ tms x (ev l x) = (a ^^^ tms x (ev l x)) ^^^ tms 1 (a ^^^ c)
  rw [one_tms]
  simp only [BitVec.xor_assoc, BitVec.xor_comm, xac, xcan, xs, xz, zx]
 | a :: l, i + 1, h => by
  show a ^^^ tms x (ev (l.set i c) x) = (a ^^^ tms x (ev l x)) ^^^ tms (tms (pw x i) x) (l.getD i 0 ^^^ c)
  rw [ev_set x c l i (by simpa using h), tms_b, BitVec.xor_assoc, tms_comm (pw x i) x, tms_assoc]
/-! ### the generator polynomial -/
def pows (p : Nat) : List R := (List.range p).map fun i => it i 1
def gen (p : Nat) : List R := prodL (pows p)
theorem gen_succ (i : Nat) : gen (i + 1) = mulL (gen i) [it i 1, 1] := by
 unfold gen pows
 rw [List.range_succ, List.map_append]
 exact prodL_snoc _ _
theorem gen_len (p : Nat) : (gen p).length = p + 1 := by unfold gen; rw [prodL_len]; simp [pows]
theorem gen_tr (p : Nat) : Tr (gen p) := prodL_tr _
theorem ev_gen_succ (i : Nat) (x : R) : ev (gen (i + 1)) x = tms (ev (gen i) x) (it i 1 ^^^ x) := by rw [gen_succ, ev_mulL, ev_lin]
theorem gen_root {p i : Nat} (h : i < p) : ev (gen p) (it i 1) = 0 := by
 unfold gen
 rw [prodL_zero]
 exact List.mem_map.2 ⟨i, List.mem_range.2 h, rfl⟩
theorem gen_next {l : List R} {i : Nat} (hi : i ≤ 100) (hl : l.length = i + 2) (he : ∀ x, ev l x = tms (ev (gen i) x) (it i 1 ^^^ x)) : l = gen (i + 1) := by
 have h := G6.eq_ev (G6.trim_trim l) (gen_tr (i + 1)) (by have := G6.trim_len l; omega) (by rw [gen_len]; omega) fun x => by rw [G6.ev_trim, he, ev_gen_succ]
 have hlen := congrArg List.length h
 rw [gen_len] at hlen
 rw [← h]
 rcases G6.trim_cases l with h0 | ⟨q, a, ha, h0⟩
 ·rw [h0] at hlen
  simp at hlen
 ·exact (trim_full l (by rw [hlen, hl])).symm
where trim_full : ∀ l : List R, (G6.trim l).length = l.length → G6.trim l = l
 | [], _ => rfl
 | a :: l, h => by
  unfold G6.trim at h ⊢
  split at h
  ·rename_i h1
   have hl := trim_full l
   split at h
   ·simp at h
   ·rw [if_pos h1]
    rename_i h2
    rw [if_neg h2]
    have : l = [] := List.eq_nil_of_length_eq_zero (by simp at h; exact h.symm ▸ rfl)
    rw [this]
  ·rename_i h1
   rw [if_neg h1]
   rw [trim_full l (by simpa using h)]
theorem gen_last (p : Nat) : (gen p).getD p 0 = 1 := by
 induction p with
 | zero => rfl
 | succ p ih =>
  obtain ⟨q, a, hq⟩ := G6.snoc_of (p := gen p) (fun e => by have := gen_len p; rw [e] at this; simp at this)
  have hl := gen_len p
  rw [hq] at hl ih
  have hql : q.length = p := by simpa using hl
  rw [← hql, G6.getD_last] at ih
  obtain ⟨m, hm, hml⟩ := G6.ml_snoc q [it p 1] a 1
  have e : gen (p + 1) = m ++ [tms a 1] := by
   rw [gen_succ, hq]
   show G6.trim (G6.ml (q ++ [a]) ([it p 1] ++ [1])) = _
   rw [hm, ih, one_tms, G6.trim_snoc one_ne]
  rw [e, ih, one_tms]
  have : m.length = p + 1 := by rw [hml, hql]; rfl
  rw [← this]
  exact G6.getD_last m 1
end G7
namespace G7
open G5
open Go.RowKit Mem

theorem drewN_drewN (w : World) (m n : Nat) : (w.drewN m).drewN n = w.drewN (m + n) := by
 simp [World.drewN, Nat.add_assoc, Nat.add_comm, Nat.add_left_comm]
/-! ### strings as words -/
def el (s : ByteArray) : List R := s.data.toList.map UInt8.toBitVec
theorem el_len (s : ByteArray) : (el s).length = s.size := by simp [el]
theorem el_get (s : ByteArray) (k : Nat) (h : k < s.size) : (el s).getD k 0 = (s[k]).toBitVec := by
 have h' : k < s.data.toList.length := by simpa using h
 simp [el, List.getD_eq_getElem?_getD, List.getElem?_eq_getElem h']
 rfl
theorem u8s_el (s : ByteArray) : (⟨(G6.u8s (el s)).toArray⟩ : ByteArray) = s := by
 unfold G6.u8s el
 rw [List.map_map]
 have : (UInt8.ofBitVec ∘ UInt8.toBitVec) = id := by funext x; rfl
 rw [this, List.map_id]
theorem byte_val (s : ByteArray) (k : Nat) (h : k < s.size) (X : R) (hX : (el s).getD k 0 = X) : ((s[k]).toNat : Int) = (X.toNat : Int) := by
 rw [← hX, el_get s k h]
 rfl
theorem take_el (s : ByteArray) (k : Nat) (h : k < s.size) : (el s).take (k + 1) = (el s).take k ++ [(el s).getD k 0] := G6.take_snoc _ _ (by rw [el_len]; exact h)

def str (l : List R) : ByteArray := ⟨(G6.u8s l).toArray⟩
theorem str_el (s : ByteArray) : str (el s) = s := u8s_el s
theorem el_str (l : List R) : el (str l) = l := by
 unfold el str G6.u8s
 show (l.map UInt8.ofBitVec).map UInt8.toBitVec = l
 rw [List.map_map]
 have : (UInt8.toBitVec ∘ UInt8.ofBitVec) = id := by funext x; rfl
 rw [this, List.map_id]
theorem str_app (l m : List R) : str l ++ str m = str (l ++ m) := by
 apply ByteArray.ext
 simp [str, G6.u8s, ByteArray.data_append]
theorem size_str (l : List R) : (str l).size = l.length := by rw [← el_len, el_str]
end G7
namespace G7
open G5
open G6 (ev ev_nil ev_cons ev_append ev_snoc ev_one xz zx xac xcan tac sc ev_sc sc_len getD_app getD_zeros getD_set getD_take getD_far eq_getD)

theorem gz (n j : Nat) : (List.replicate n (0 : R)).getD j 0 = 0 := getD_zeros n j
def tab (n : Nat) (f : Nat → R) : List R := (List.range n).map f
theorem tab_len (n : Nat) (f : Nat → R) : (tab n f).length = n := by simp [tab]
theorem tab_get (n : Nat) (f : Nat → R) (j : Nat) (h : j < n) : (tab n f).getD j 0 = f j := by simp [tab, List.getD_eq_getElem?_getD, h]
theorem tab_eq {n : Nat} {f : Nat → R} {l : List R} (hl : l.length = n) (h : ∀ j, j < n → l.getD j 0 = f j) : l = tab n f :=
 eq_getD (by rw [hl, tab_len]) fun j hj => by rw [h j (by omega), tab_get _ _ _ (by omega)]
theorem tab_congr {n : Nat} {f g : Nat → R} (h : ∀ j, j < n → f j = g j) : tab n f = tab n g := tab_eq (tab_len _ _) fun j hj => by rw [tab_get _ _ _ hj, h j hj]
theorem tab_set (n : Nat) (f : Nat → R) (j : Nat) (c : R) (h : j < n) : (tab n f).set j c = tab n (fun m => if m = j then c else f m) :=
 tab_eq (by rw [List.length_set, tab_len]) fun m hm => by
  rw [getD_set _ _ _ _ (by rw [tab_len]; exact h)]
  split
  ·rfl
  ·exact tab_get _ _ _ hm
theorem getD_rev (l : List R) (j : Nat) (h : j < l.length) : l.reverse.getD j 0 = l.getD (l.length - 1 - j) 0 := by
 simp [List.getD_eq_getElem?_getD, List.getElem?_reverse h]
theorem getD_sc (c : R) (l : List R) (j : Nat) : (sc c l).getD j 0 = tms c (l.getD j 0) := by
 by_cases h : j < l.length
 ·simp [sc, List.getD_eq_getElem?_getD, List.getElem?_map, List.getElem?_eq_getElem h]
 ·rw [getD_far _ _ (by rw [sc_len]; omega), getD_far _ _ (by omega), tms_zero]

/-! ### the syndromes -/
def syn (p : Nat) (w : List R) : List R := tab p fun i => vl w (it i 1)
theorem syn_len (p : Nat) (w : List R) : (syn p w).length = p := tab_len _ _
theorem syn_get (p : Nat) (w : List R) (i : Nat) (h : i < p) : (syn p w).getD i 0 = vl w (it i 1) := tab_get _ _ _ h
theorem syn_succ (p : Nat) (w : List R) : syn (p + 1) w = syn p w ++ [vl w (it p 1)] := by simp [syn, tab, List.range_succ]
theorem syn_cw (p : Nat) (w : List R) : (syn p w).all (· == 0) = true ↔ Cw p w := by
 rw [List.all_eq_true]
 constructor
 ·intro h i hi
  have := h (vl w (it i 1)) (by unfold syn tab; exact List.mem_map.2 ⟨i, List.mem_range.2 hi, rfl⟩)
  simpa using this
 ·intro h a ha
  obtain ⟨i, hi, rfl⟩ := List.mem_map.1 (show a ∈ (List.range p).map fun i => vl w (it i 1) from ha)
  rw [h i (List.mem_range.1 hi)]
  rfl
def cwB (p : Nat) (w : List R) : Bool := (syn p w).all (· == 0)
theorem cwB_yes {p : Nat} {w : List R} (h : Cw p w) : cwB p w = true := (syn_cw p w).2 h
theorem cwB_iff {p : Nat} {w : List R} : cwB p w = true ↔ Cw p w := syn_cw p w

/-! ### one row of the long division -/
def row (r g : List R) (i p : Nat) (L : R) (k : Nat) : List R := tab r.length fun j => r.getD j 0 ^^^ (if i ≤ j ∧ j < i + k then tms L (g.getD (p - (j - i)) 0) else 0)
theorem row_len (r g : List R) (i p : Nat) (L : R) (k : Nat) : (row r g i p L k).length = r.length := tab_len _ _
theorem row_get (r g : List R) (i p : Nat) (L : R) (k j : Nat) (h : j < r.length) : (row r g i p L k).getD j 0 = r.getD j 0 ^^^ (if i ≤ j ∧ j < i + k then tms L (g.getD (p - (j - i)) 0) else 0) := tab_get _ _ _ h
theorem row_zero (r g : List R) (i p : Nat) (L : R) : row r g i p L 0 = r := (tab_eq rfl fun j _ => by rw [if_neg (by omega), xz]).symm
theorem row_at {r g : List R} {i p k m : Nat} {L : R} (h : i + k < r.length) (hm : m = i + k) : (row r g i p L k).getD m 0 = r.getD m 0 := by
 subst hm
 rw [row_get _ _ _ _ _ _ _ h, if_neg (by omega), xz]
theorem row_step {r g : List R} {i p k m q : Nat} {L : R} (h : i + k < r.length) (hm : m = i + k) (hq : q = p - k) : (row r g i p L k).set m (r.getD m 0 ^^^ tms L (g.getD q 0)) = row r g i p L (k + 1) := by
 subst hm hq
 unfold row
 rw [tab_set _ _ _ _ h]
 refine tab_congr fun j hj => ?_
 by_cases e : j = i + k
 ·subst e
  rw [if_pos rfl, if_pos (by omega), show i + k - i = k by omega]
 ·rw [if_neg e]
  by_cases e2 : i ≤ j ∧ j < i + k
  ·rw [if_pos e2, if_pos (by omega)]
  ·rw [if_neg e2, if_neg (by omega)]
theorem row_vl {r g : List R} {i p q : Nat} {L x : R} (hr : r.length = i + (p + 1) + q) (hg : g.length = p + 1) (hx : ev g x = 0) : vl (row r g i p L (p + 1)) x = vl r x := by
 have e : row r g i p L (p + 1) = xr r (List.replicate i 0 ++ ((sc L g).reverse ++ List.replicate q 0)) := by
  have hl : (List.replicate i (0 : R) ++ ((sc L g).reverse ++ List.replicate q 0)).length = r.length := by simp [sc_len]; omega
  refine (tab_eq (by rw [xr_len2, hl, Nat.min_self]) fun j hj => ?_).symm
  rw [xr_get _ _ _ hj (by rw [hl]; exact hj)]
  congr 1
  rw [getD_app, List.length_replicate]
  by_cases h1 : j < i
  ·rw [if_pos h1, if_neg (by omega), gz]
  ·rw [if_neg h1, getD_app, List.length_reverse, sc_len, hg]
   by_cases h2 : j - i < p + 1
   ·rw [if_pos h2, if_pos (by omega), getD_rev _ _ (by rw [sc_len]; omega), sc_len, getD_sc, hg]
    congr 2
   ·rw [if_neg h2, if_neg (by omega), gz]
 rw [e, vl_xr _ _ _ (by simp [sc_len]; omega), vl_append, vl_zeros, zero_tms, zx, vl_append, vl_rev, ev_sc, hx, tms_zero, zero_tms, zx, vl_zeros, xz]
where
 xr_len2 : ∀ u v : List R, (xr u v).length = min u.length v.length
 | [], v => by simp [xr]
 | a :: u, [] => by simp [xr]
 | a :: u, b :: v => by
  show (xr u v).length + 1 = _
  rw [xr_len2 u v, List.length_cons, List.length_cons]
  omega
 xr_get : ∀ (u v : List R) (k : Nat), k < u.length → k < v.length → (xr u v).getD k 0 = u.getD k 0 ^^^ v.getD k 0
 | [], v, k, h, _ => by simp at h
 | a :: u, [], k, _, h => by simp at h
 | a :: u, b :: v, 0, _, _ => rfl
 | a :: u, b :: v, k + 1, h, h' => xr_get u v k (by simpa using h) (by simpa using h')

def IsEnc (p : Nat) (d t : List R) : Prop := t.length = p ∧ Cw p (d ++ t)
theorem IsEnc.only {p : Nat} {d s t : List R} (h : IsEnc p d s) (k : IsEnc p d t) (hl : d.length + p ≤ 255) : s = t := h.2.only k.2 h.1 k.1 hl
structure DV (d : List R) (p i : Nat) (r : List R) : Prop where
 len : r.length = d.length + p
 zero : ∀ j, j < i → r.getD j 0 = 0
 val : ∀ t, t < p → vl r (it t 1) = vl (d ++ List.replicate p 0) (it t 1)
theorem DV.start (d : List R) (p : Nat) : DV d p 0 (d ++ List.replicate p 0) := ⟨by simp, fun j h => by omega, fun _ _ => rfl⟩
theorem DV.step {d r : List R} {p i : Nat} {L : R} (h : DV d p i r) (hi : i < d.length) (hL : r.getD i 0 = L) : DV d p (i + 1) (row r (gen p) i p L (p + 1)) := by
 refine ⟨by rw [row_len, h.len], fun j hj => ?_, fun t ht => ?_⟩
 ·rw [row_get _ _ _ _ _ _ _ (by rw [h.len]; omega)]
  by_cases e : j = i
  ·subst e
   rw [if_pos (by omega), hL, Nat.sub_self, Nat.sub_zero, gen_last, tms_one, xs]
  ·rw [if_neg (by omega), h.zero j (by omega), xz]
 ·rw [row_vl (q := d.length - 1 - i) (by rw [h.len]; omega) (gen_len p) (gen_root ht), h.val t ht]
theorem DV.done {d r : List R} {p : Nat} (h : DV d p d.length r) : IsEnc p d (r.drop d.length) := by
 refine ⟨by rw [List.length_drop, h.len]; omega, fun t ht => ?_⟩
 have e : r = List.replicate d.length 0 ++ r.drop d.length := by
  refine eq_getD (by simp; have := h.len; omega) fun j hj => ?_
  rw [getD_app, List.length_replicate]
  by_cases h1 : j < d.length
  ·rw [if_pos h1, h.zero j h1, gz]
  ·rw [if_neg h1]
   simp [List.getD_eq_getElem?_getD, List.getElem?_drop]
   congr 3
   omega
 have hv := h.val t ht
 rw [e, vl_append, vl_zeros, zero_tms, zx, vl_append, vl_zeros, xz, List.length_replicate] at hv
 rw [vl_append, List.length_drop, h.len, show d.length + p - d.length = p by omega, hv, xs]

/-! ### one step of the shift register -/
/-- Behind k of a step's p exchanges. -/
def shf (s g : List R) (p : Nat) (F : R) (k : Nat) : List R := tab s.length fun j => if j < k then s.getD (j + 1) 0 ^^^ tms F (g.getD (p - 1 - j) 0) else s.getD j 0
theorem shf_len (s g : List R) (p : Nat) (F : R) (k : Nat) : (shf s g p F k).length = s.length := tab_len _ _
theorem shf_get (s g : List R) (p : Nat) (F : R) (k j : Nat) (h : j < s.length) : (shf s g p F k).getD j 0 = if j < k then s.getD (j + 1) 0 ^^^ tms F (g.getD (p - 1 - j) 0) else s.getD j 0 := tab_get _ _ _ h
theorem shf_zero (s g : List R) (p : Nat) (F : R) : shf s g p F 0 = s := (tab_eq rfl fun j _ => by rw [if_neg (by omega)]).symm
theorem shf_at {s g : List R} {p k m : Nat} {F : R} (hm : m = k + 1) (h : m < s.length) : (shf s g p F k).getD m 0 = s.getD m 0 := by
 rw [shf_get _ _ _ _ _ _ h, if_neg (by omega)]
theorem shf_step {s g : List R} {p k m q : Nat} {F : R} (hm : m = k + 1) (hq : q = p - 1 - k) (h : k < s.length) : (shf s g p F k).set k (s.getD m 0 ^^^ tms F (g.getD q 0)) = shf s g p F (k + 1) := by
 subst hm hq
 unfold shf
 rw [tab_set _ _ _ _ h]
 refine tab_congr fun j hj => ?_
 by_cases e : j = k
 ·subst e
  rw [if_pos rfl, if_pos (by omega)]
 ·rw [if_neg e]
  by_cases e2 : j < k
  ·rw [if_pos e2, if_pos (by omega)]
  ·rw [if_neg e2, if_neg (by omega)]
theorem shf_vl {s g : List R} {p : Nat} {F x : R} (hp : p < s.length) (hz : s.getD p 0 = 0) (hg : g.length = p + 1) (hl : g.getD p 0 = 1) (hx : ev g x = 0) :
  vl ((shf s g p F p).take p) x = tms (vl (s.take p) x) x ^^^ tms (s.getD 0 0 ^^^ F) (pw x p) := by
 have e : (shf s g p F p).take p = xr ((s.drop 1).take p) (sc F (g.take p)).reverse := by
  have h1 : ((s.drop 1).take p).length = p := by simp; omega
  have h2 : (sc F (g.take p)).reverse.length = p := by simp [sc_len]; omega
  refine eq_getD (by rw [xr_len _ _ (by rw [h1, h2]), h1, List.length_take, shf_len]; omega) fun j hj => ?_
  have hj : j < p := by simp at hj; omega
  rw [row_vl.xr_get _ _ _ (by omega) (by omega), getD_take, if_pos hj, shf_get _ _ _ _ _ _ (by omega), if_pos hj, getD_take, if_pos hj]
  rw [getD_rev _ _ (by rw [sc_len, List.length_take]; omega), sc_len, getD_sc, getD_take, List.length_take, show min p g.length = p by omega, if_pos (by omega)]
  congr 1
  simp [List.getD_eq_getElem?_getD, List.getElem?_drop, Nat.add_comm]
 have h1 : ((s.drop 1).take p).length = p := by simp; omega
 rw [e, vl_xr _ _ _ (by simp [sc_len]; omega), vl_rev, ev_sc]
 have hv : vl (s.take (p + 1)) x = tms (vl (s.take p) x) x := by rw [G6.take_snoc s p hp, hz, vl_snoc, xz]
 have hv2 : vl (s.take (p + 1)) x = tms (s.getD 0 0) (pw x p) ^^^ vl ((s.drop 1).take p) x := by
  have : s.take (p + 1) = s.getD 0 0 :: (s.drop 1).take p := by
   rcases s with _ | ⟨a, s⟩
   ·simp at hp
   ·simp
  rw [this, vl_cons, h1]
 have hev : ev (g.take p) x = pw x p := by
  have := G6.ev_step g p (by omega) x
  rw [List.take_of_length_le (by omega), hx, hl, one_tms] at this
  exact xor_eq_zero this.symm
 rw [hev, ← hv, hv2, tms_a]
 simp only [BitVec.xor_assoc, BitVec.xor_comm, xac, xcan, xs, xz, zx]
structure SR (p : Nat) (d s : List R) : Prop where
 len : s.length = 65
 zero : ∀ j, p ≤ j → s.getD j 0 = 0
 val : ∀ t, t < p → vl (s.take p) (it t 1) = tms (vl d (it t 1)) (pw (it t 1) p)
theorem SR.start (p : Nat) (hp : p ≤ 64) : SR p [] (List.replicate 65 0) := ⟨by simp, fun j _ => gz _ _, fun t _ => by
 rw [List.take_replicate, vl_zeros]
 exact (zero_tms _).symm⟩
theorem SR.step {p : Nat} {d s : List R} {F X : R} (h : SR p d s) (hp1 : 1 ≤ p) (hp : p ≤ 64) (hF : s.getD 0 0 ^^^ X = F) : SR p (d ++ [X]) (shf s (gen p) p F p) := by
 refine ⟨by rw [shf_len, h.len], fun j hj => ?_, fun t ht => ?_⟩
 ·by_cases h6 : j < 65
  ·rw [shf_get _ _ _ _ _ _ (by rw [h.len]; exact h6), if_neg (by omega), h.zero j hj]
  ·exact getD_far _ _ (by rw [shf_len, h.len]; omega)
 ·rw [shf_vl (by rw [h.len]; omega) (h.zero p (Nat.le_refl _)) (gen_len p) (gen_last p) (gen_root ht), h.val t ht, ← hF, xcan, vl_snoc, tms_a]
  congr 1
  simp only [tms_assoc, tms_comm, tac]
theorem SR.done {p : Nat} {d s : List R} (h : SR p d s) (hp : p ≤ 64) : IsEnc p d (s.take p) := by
 have hl : (s.take p).length = p := by rw [List.length_take, h.len]; omega
 refine ⟨hl, fun t ht => ?_⟩
 rw [vl_append, hl, h.val t ht, xs]

/-! ### what the package's functions hand back -/
open Go.RowKit Mem
open G6 (IsSl) in
/-- The generator polynomial. -/
def Gend (p : Nat) (w : World) (e : Ending) (w' : World) : Prop := ∃ A c, e = .returned (.tuple #[.slice A (p + 1) c, .int .i64 0]) ∧ IsSl w' A c (gen p) ∧ Below w.heap.size w w'
def Encd (p : Nat) (d : List R) (w : World) (e : Ending) (w' : World) : Prop := ∃ t, IsEnc p d t ∧ e = .returned (.tuple #[.string (str (d ++ t)), .int .i64 0]) ∧ Below w.heap.size w w'
open G6 (IsSl) in
/-- The syndromes. -/
def Synd (p : Nat) (d : List R) (w : World) (e : Ending) (w' : World) : Prop := ∃ A c, e = .returned (.tuple #[.slice A p c, .int .i64 0]) ∧ IsSl w' A c (syn p d) ∧ Below w.heap.size w w'
def NoSl (k : Int) (w : World) (e : Ending) (w' : World) : Prop := e = .returned (.tuple #[.slice none 0 0, .int .i64 k]) ∧ w = w'
end G7
namespace G7
open G5
open G6 (ev rs rs_len rs_get rs_snoc rs_append IsSl Gives conv_sl mb info_byte mulP_own mulL)
open Go.RowKit Mem

theorem par_yes (n : Int) (w : World) (h1 : 1 ≤ n) (h2 : n ≤ 64) : Calls Tryz.prog 114 #[.int .i64 n] w fun e w' => e = .returned (.bool true) ∧ w = w' := by
 have t1 : decide (1 ≤ n) = true := decide_eq_true h1
 have t2 : decide (n ≤ 64) = true := decide_eq_true h2
 go_enter Tryz.func114, Tryz.ntmps114
 go_wp2
 go_ret
 exact ⟨rfl, rfl⟩
theorem par_no (n : Int) (w : World) (h : n < 1 ∨ 64 < n) : Calls Tryz.prog 114 #[.int .i64 n] w fun e w' => e = .returned (.bool false) ∧ w = w' := by
 by_cases h1 : 1 ≤ n
 ·have t1 : decide (1 ≤ n) = true := decide_eq_true h1
  have t2 : decide (n ≤ 64) = false := decide_eq_false (by omega)
  go_enter Tryz.func114, Tryz.ntmps114
  go_wp2
  go_ret
  exact ⟨rfl, rfl⟩
 ·have t1 : decide (1 ≤ n) = false := decide_eq_false h1
  go_enter Tryz.func114, Tryz.ntmps114
  go_wp2
  go_ret
  exact ⟨rfl, rfl⟩
set_option maxHeartbeats 2000000 in
theorem gen_own (p : Nat) (w : World) (h1 : 1 ≤ p) (h2 : p ≤ 64) : Calls Tryz.prog 70 #[.int .i64 (p : Int)] w (Gend p w) := by
 have cP := Lib.hid (par_yes (p : Int) w (by omega) (by omega))
 go_enter Tryz.func70, Tryz.ntmps70
 go_wp2_with fail
 refine cP.out.mono ?_
 rintro e w1 ⟨rfl, rfl⟩
 clear cP
 go_wp2
 go_loopw [4, 11] (fun v a wr => ∃ (E : Option Addr) (f i ng : Nat), v = .slice E ng f ∧ a = .int .i64 i ∧ i ≤ p ∧ Hid ((gen i).length = ng) ∧ Hid (IsSl wr E f (gen i)) ∧ Below w.heap.size w wr) (fun _ a _ => p - (intOf a).toNat)
 case atStart => exact ⟨_, 1, 0, 1, rfl, rfl, Nat.zero_le _, Lib.hid rfl, Lib.hid (IsSl.made w 5 [1#8] #[.int .u8 1] _ 1 rfl rfl rfl (by decide)), mb w _⟩
 case round =>
  obtain ⟨E, f, i, ng, rfl, rfl, hi, hni, hg, hb⟩ := hrel
  by_cases hlt : i < p
  ·have cE := exp_own (i : Int) wr (by omega) (by omega)
   rw [ex_nat] at cE
   have hgs := Lib.hid (gen_succ i)
   obtain ⟨X, hX⟩ : ∃ X, it i 1 = X := ⟨_, rfl⟩
   rw [hX] at cE
   have hXh := Lib.hid hX
   have cE := Lib.hid cE
   have d1 : (i : Int) < (p : Int) := by omega
   have d2 : decide (i < p) = true := decide_eq_true hlt
   clear hX
   go_wp2_with fail
   refine cE.out.mono ?_
   rintro e w1 ⟨rfl, hb1⟩
   have ob := mb w1 (.cells #[bv X, .int .u8 1] 5)
   have cM := mulP_own ((hg.out.below hb1).below ob) (IsSl.made w1 5 [X, 1#8] #[bv X, .int .u8 1] (w1.heap.size) 2 rfl rfl rfl (by decide)) (by have := gen_len i; simp; omega)
   rw [show mulL (gen i) [X, 1#8] = gen (i + 1) by rw [hgs.out, hXh.out]; rfl, hni.out] at cM
   simp only [List.length_cons, List.length_nil, Nat.reduceAdd] at cM
   have cM := Lib.hid cM
   have hb2 := chain (chain hb hb1) ob
   clear hg hb hb1 ob cE hgs hXh
   go_wp2_with fail
   refine cM.out.mono ?_
   rintro e w2 ⟨E2, f2, rfl, hs2, hb3⟩
   have hs2 := Lib.hid hs2
   have hb4 := chain hb2 hb3
   clear cM hb2 hb3
   go_wp2
   go_roundw
   case rel => exact ⟨E2, f2, i + 1, _, rfl, by go_num, by omega, Lib.hid rfl, hs2, hb4⟩
   case measure => simp [intOf]; omega
  ·obtain rfl : i = p := by omega
   have d1 : ¬ (i : Int) < (i : Int) := by omega
   have d2 : decide (i < i) = false := decide_eq_false (by omega)
   go_wp2
   go_ret2
   exact ⟨E, f, by rw [← gen_len i, hni.out]; rfl, hg.out, hb⟩
end G7
namespace G7
open G5
open G6 (ev rs rs_len rs_get IsSl mb VAt.setR VAt.readR)
open Go.RowKit Mem

set_option maxHeartbeats 2000000 in
theorem shift_own (p : Nat) (h1 : 1 ≤ p) (h2 : p ≤ 64) {S P Gb : Nat} {A : Option Addr} {c : Nat} {w0 w : World} (X F : R) {s : List R}
  (hS : w0.heap.size = S) (hP : P < S) (hG : Gb < S) (hcP : w0.cell? ⟨P, 0, none⟩ = some (.int .i64 (p : Int))) (hcG : w0.cell? ⟨Gb, 0, none⟩ = some (.slice A (p + 1) c)) (hA : IsSl w0 A c (gen p))
  (hb : Below w0.heap.size w0 w) (hs : s.length = 65) (hat : VAt w S (rs s)) (hgl : S < w.heap.size) (hF : s.getD 0 0 ^^^ X = F) :
  Calls Tryz.prog 117 #[bv X, .pointer (some ⟨S, 0, none⟩), .pointer (some ⟨P, 0, none⟩), .pointer (some ⟨Gb, 0, none⟩)] w
   fun e w' => e = .returned (.tuple #[]) ∧ VAt w' S (rs (shf s (gen p) p F p)) ∧ S < w'.heap.size ∧ Below w0.heap.size w0 w' := by
 obtain ⟨hn0, hf0⟩ := VAt.readR hat (k := 0) (by omega)
 obtain ⟨s0, hs0⟩ : ∃ s0, s.getD 0 0 = s0 := ⟨_, rfl⟩
 rw [hs0] at hn0 hF
 have cA := Lib.hid (add_own s0 X w)
 rw [hF] at cA
 have cP := (hb.cell (p := ⟨P, 0, none⟩) (by rw [hS]; exact hP)).trans hcP
 have hat0 := Lib.hid (show VAt w S (rs (shf s (gen p) p F 0)) by rw [shf_zero]; exact hat)
 have hglh := Lib.hid hgl
 have hSh := Lib.hid hS
 have hcPh := Lib.hid hcP
 have hcGh := Lib.hid hcG
 have hAh := Lib.hid hA
 have hsh := Lib.hid hs
 clear hat hF hs0 hS hgl hcP hcG hA hs
 go_enter Tryz.func117, Tryz.ntmps117
 go_wp2_with fail
 refine cA.out.mono ?_
 rintro e w1 ⟨rfl, rfl⟩
 clear cA
 go_wp2
 clear hn0 hf0 cP
 go_loopw [12] (fun a wr => ∃ k : Nat, k ≤ p ∧ a = .int .i64 k ∧ Hid (VAt wr S (rs (shf s (gen p) p F k))) ∧ Hid (S < wr.heap.size) ∧ Below w0.heap.size w0 wr) (fun a _ => p - (intOf a).toNat)
 case atStart => exact ⟨0, Nat.zero_le _, rfl, hat0, hglh, hb⟩
 case round =>
  clear hat0 hglh hb
  obtain ⟨k, hk, rfl, hat, hgl, hb⟩ := hrel
  by_cases hlt : k < p
  ·obtain ⟨m, hm⟩ : ∃ m, m = k + 1 := ⟨_, rfl⟩
   obtain ⟨pm, hpm⟩ : ∃ pm, p = pm + 1 := ⟨p - 1, by omega⟩
   obtain ⟨q, hq⟩ : ∃ q, q = p - 1 - k := ⟨_, rfl⟩
   have hml : m < s.length := by rw [hsh.out]; omega
   have hkl : k < s.length := by rw [hsh.out]; omega
   have s1 := shf_at (g := gen p) (p := p) (F := F) hm hml
   have s2 := shf_step (g := gen p) (p := p) (F := F) hm hq hkl
   obtain ⟨hn1, hf1⟩ := VAt.readR hat.out (k := m) (by rw [shf_len]; exact hml)
   obtain ⟨hn2, hf2⟩ := VAt.readR hat.out (k := k) (by rw [shf_len]; exact hkl)
   rw [s1] at hn1
   obtain ⟨b2, o2, rfl, hbl2, hc2⟩ := (hAh.out.below hb).read q (by rw [gen_len]; omega)
   have cP := (hb.cell (p := ⟨P, 0, none⟩) (by rw [hSh.out]; exact hP)).trans hcPh.out
   have cG := (hb.cell (p := ⟨Gb, 0, none⟩) (by rw [hSh.out]; exact hG)).trans hcGh.out
   obtain ⟨Z, hZ⟩ : ∃ Z, s.getD m 0 = Z := ⟨_, rfl⟩
   obtain ⟨Y, hY⟩ : ∃ Y, (gen p).getD q 0 = Y := ⟨_, rfl⟩
   rw [hZ] at hn1 s2
   rw [hY] at hc2 s2
   have cM := fun W => (mul_own F Y W).mono fun _ _ ⟨a, b⟩ => And.intro a b.symm
   obtain ⟨T, hT⟩ : ∃ T, tms F Y = T := ⟨_, rfl⟩
   rw [hT] at cM s2
   have cA := fun W => (add_own Z T W).mono fun _ _ ⟨a, b⟩ => And.intro a b.symm
   obtain ⟨U, hU⟩ : ∃ U, Z ^^^ T = U := ⟨_, rfl⟩
   rw [hU] at cA s2
   have cM := Lib.hid cM
   have cA := Lib.hid cA
   have hat2 := Lib.hid (show VAt (wr.setCell ⟨S, k, none⟩ (bv U)).drew S (rs (shf s (gen p) p F (k + 1))) by
    have := (VAt.setR hat.out (k := k) (by rw [shf_len]; exact hkl) U).drew
    rw [s2] at this
    exact this)
   have hgl2 := Lib.hid (show S < (wr.setCell ⟨S, k, none⟩ (bv U)).drew.heap.size by simpa using hgl.out)
   have hb2 := chainN (hb.setCell (p := ⟨S, k, none⟩) (by rw [hSh.out]; exact Nat.le_refl _) (bv U)) 1
   have d1 : (k : Int) < (p : Int) := by omega
   have k0 : (0 : Int) ≤ (k : Int) := by omega
   have k65 : (k : Int) < 65 := by omega
   have m0 : (0 : Int) ≤ (m : Int) := by omega
   have m65 : (m : Int) < 65 := by omega
   have e1 : (k : Int) + 1 = (m : Int) := by omega
   have e2 : (p : Int) - 1 = (pm : Int) := by omega
   have e3 : (pm : Int) - (k : Int) = (q : Int) := by omega
   have q0 : (0 : Int) ≤ (q : Int) := by omega
   have q1 : (q : Int) < (p : Int) + 1 := by omega
   have w1' : IntKind.i64.wrap (m : Int) = (m : Int) := by rw [IntKind.wrap_i64]; omega
   have w2' : IntKind.i64.wrap (q : Int) = (q : Int) := by rw [IntKind.wrap_i64]; omega
   have w3' : IntKind.i64.wrap (pm : Int) = (pm : Int) := by rw [IntKind.wrap_i64]; omega
   clear hat hgl s1 s2 hkl hml hm hq hZ hY hT hU hpm
   go_wp2_with fail
   refine wp_region_still_tail 16 (by kernel_rfl) (by kernel_rfl) ?_
   simp only [List.take_succ_cons, List.take_zero, List.drop_succ_cons, List.drop_zero]
   repeat still_step
   still_call (cM.out _)
   still_call (cA.out _)
   repeat still_step
   refine wpStill_nil ?_
   change wpList _ _ _ _ _ wr.drew
   go_wp2
   go_roundw
   case rel => exact ⟨k + 1, by omega, by go_num, hat2, hgl2, hb2⟩
   case measure => simp [intOf]; omega
  ·have hke : k = p := by omega
   have d1 : ¬ (k : Int) < (p : Int) := by omega
   rw [hke] at hat
   clear hke
   go_wp2
   go_end0
   exact ⟨rfl, hat.out, hgl.out, hb⟩
end G7
namespace G7
open G5
open G6 (ev rs rs_len rs_get IsSl conv_sl mb VAt.setR VAt.readR)
open Go.RowKit Mem

theorem info_arr : (Tryz.prog.info? 146).map (fun i => (i.zero, i.size, i.bytes)) = some (some (.agg (rs (List.replicate 65 0#8)).toArray), 65, 65) := by kernel_rfl
theorem zero_arr (w : World) : (zeroValue 146).run Tryz.prog w = .ok (.agg (rs (List.replicate 65 0#8)).toArray) w := by
 obtain ⟨i0, hi, hz0, hz1, hz2⟩ := info_parts info_arr
 simp [zeroValue, typeInfo, hi, hz0]

set_option maxHeartbeats 2000000 in
theorem rem_own (p : Nat) (h1 : 1 ≤ p) (h2 : p ≤ 64) {A : Option Addr} {c : Nat} {w : World} (d : ByteArray) (hd : d.size ≤ 1000) (hA : IsSl w A c (gen p)) :
  Calls Tryz.prog 71 #[.string d, .slice A (p + 1) c] w
   fun e w' => ∃ t, IsEnc p (el d) t ∧ e = .returned (.string (str t)) ∧ Below w.heap.size w w' := by
 have hmf : ∀ (fn : Fn) (first cap : Array Value) (w : World), (Instr.makeFunc fn first cap).run Tryz.prog w = .ok (.func fn first cap) w := fun _ _ _ _ => rfl
 have e1 : ((p : Int) + 1) - 1 = (p : Int) := by omega
 have hAh := Lib.hid hA
 clear hA
 go_enter Tryz.func71, Tryz.ntmps71
 have hz := zero_arr
 obtain ⟨Z, hZ⟩ : ∃ Z : Array Value, (rs (List.replicate 65 0#8)).toArray = Z := ⟨_, rfl⟩
 rw [hZ] at hz
 have hZh := Lib.hid hZ
 clear hZ
 go_wp2
 clear hz
 obtain ⟨W0, hW0⟩ : ∃ W0, (w.alloc (.cells #[.slice A (p + 1) c] 53)).alloc (.cells #[.int .i64 (p : Int)] 3) = W0 := ⟨_, rfl⟩
 obtain ⟨S, hS⟩ : ∃ S, w.heap.size + 1 + 1 = S := ⟨_, rfl⟩
 have hW0S : W0.heap.size = S := by rw [← hW0, ← hS]; simp
 have hbW : Below w.heap.size w W0 := by rw [← hW0]; exact chain (mb w _) (mb _ _)
 have hcP : W0.cell? ⟨w.heap.size + 1, 0, none⟩ = some (.int .i64 (p : Int)) := by
  rw [← hW0]
  simp
 have hcG : W0.cell? ⟨w.heap.size, 0, none⟩ = some (.slice A (p + 1) c) := by
  rw [← hW0]
  refine ((mb (w.alloc (.cells #[.slice A (p + 1) c] 53)) (.cells #[.int .i64 (p : Int)] 3)).cell (p := ⟨w.heap.size, 0, none⟩) (by simp)).trans ?_
  simp
 have hA0 : IsSl W0 A c (gen p) := hAh.out.below hbW
 have hatS : VAt (W0.alloc (.cells Z 146)) S (rs (List.replicate 65 0)) := (G6.at_of_heap (e := 146) (by rw [← hW0S, ← hZh.out]; exact heap_alloc_new W0 _)).1
 have hglS : S < (W0.alloc (.cells Z 146)).heap.size := by rw [← hW0S]; simp
 have hb0 := mb W0 (.cells Z 146)
 rw [hW0, hS]
 have hW0Sh := Lib.hid hW0S
 have hSh := Lib.hid hS
 have hcPh := Lib.hid hcP
 have hcGh := Lib.hid hcG
 have hA0h := Lib.hid hA0
 have hatS := Lib.hid hatS
 have hglS := Lib.hid hglS
 have hst := Lib.hid (SR.start p h2)
 clear hW0 hW0S hS hcP hcG hA0 hmf e1 hAh
 go_loopw [15] (fun a wr => ∃ (k : Nat) (s : List R), k ≤ d.size ∧ a = .int .i64 k ∧ Hid (SR p ((el d).take k) s) ∧ Hid (VAt wr S (rs s)) ∧ Hid (S < wr.heap.size) ∧ Below W0.heap.size W0 wr) (fun a _ => d.size - (intOf a).toNat)
 case atStart => exact ⟨0, _, Nat.zero_le _, rfl, hst, hatS, hglS, hb0⟩
 case round =>
  clear hst hatS hglS hb0 hZh
  obtain ⟨k, s, hk, rfl, hsr, hat, hgl, hb⟩ := hrel
  by_cases hlt : k < d.size
  ·obtain ⟨X, hX⟩ : ∃ X, (el d).getD k 0 = X := ⟨_, rfl⟩
   have hby := byte_val d k hlt X hX
   have htk := take_el d k hlt
   rw [hX] at htk
   obtain ⟨F, hF⟩ : ∃ F, s.getD 0 0 ^^^ X = F := ⟨_, rfl⟩
   have hsr2 := Lib.hid (show SR p ((el d).take (k + 1)) (shf s (gen p) p F p) by rw [htk]; exact hsr.out.step h1 h2 hF)
   have cS := Lib.hid (shift_own p h1 h2 (P := w.heap.size + 1) (Gb := w.heap.size) X F hW0Sh.out (by rw [← hSh.out]; omega) (by rw [← hSh.out]; omega) hcPh.out hcGh.out hA0h.out hb hsr.out.len hat.out hgl.out hF)
   have d1 : (k : Int) < (d.size : Int) := by omega
   have d2 : decide (k < d.size) = true := decide_eq_true hlt
   have k0 : (0 : Int) ≤ (k : Int) := by omega
   clear hX htk hF hat hgl hb hsr
   go_wp2_with fail
   refine cS.out.mono ?_
   rintro e w1 ⟨rfl, hat, hgl, hb⟩
   have hat := Lib.hid hat
   have hgl := Lib.hid hgl
   clear cS hby
   go_wp2
   go_roundw
   case rel => exact ⟨k + 1, _, by omega, by go_num, hsr2, hat, hgl, hb⟩
   case measure => simp [intOf]; omega
  ·have hke : k = d.size := by omega
   rw [hke, List.take_of_length_le (by rw [el_len]; omega)] at hsr
   have hen := Lib.hid (hsr.out.done h2)
   have d1 : ¬ (k : Int) < (d.size : Int) := by omega
   have d2 : decide (k < d.size) = false := decide_eq_false (by omega)
   have hsl := (G6.IsSl.of_at hat.out hsr.out.len (by omega) hgl.out).front p rfl
   have hconv := conv_sl (P := Tryz.prog) (dst := 9) Tryz.underlying53 Tryz.underlying5 Tryz.underlying9 hsl hen.out.1
   have cP := (hb.cell (p := ⟨w.heap.size + 1, 0, none⟩) (by rw [hW0Sh.out, ← hSh.out]; simp)).trans hcPh.out
   obtain ⟨t, ht⟩ : ∃ t, s.take p = t := ⟨_, rfl⟩
   rw [ht] at hen hconv
   have f1 : (p : Int) ≤ 65 := by omega
   have f2 : p ≤ 65 := by omega
   have f0 : (0 : Int) ≤ (p : Int) := by omega
   clear hke hsl ht hat hgl hsr
   go_wp2
   go_ret
   exact ⟨t, hen.out, rfl, chain hbW hb⟩

theorem enc_own (s : ByteArray) (p : Nat) (w : World) (h1 : 1 ≤ p) (h2 : p ≤ 64) (h : s.size + p ≤ 255) : Calls Tryz.prog 36 #[.string s, .int .i64 (p : Int)] w (Encd p (el s) w) := by
 have cG := Lib.hid (gen_own p w h1 h2)
 have t1 : decide ((255 : Int) < (s.size : Int) + (p : Int)) = false := decide_eq_false (by omega)
 have hsz : s.size ≤ 255 := by omega
 go_enter Tryz.func36, Tryz.ntmps36
 go_wp2_with fail
 refine cG.out.mono ?_
 rintro e w1 ⟨A, c, rfl, hs1, hb⟩
 have cR := Lib.hid (rem_own p h1 h2 s (by omega) hs1)
 clear cG hs1
 go_wp2_with fail
 refine cR.out.mono ?_
 rintro e w2 ⟨t, hen, rfl, hb2⟩
 obtain ⟨T, hT⟩ : ∃ T, str t = T := ⟨_, rfl⟩
 have hTl : T.size ≤ 255 := by rw [← hT, size_str, hen.1]; omega
 have hres := Lib.hid (show s ++ T = str (el s ++ t) by rw [← hT, ← str_app, str_el])
 rw [hT]
 have hen := Lib.hid hen
 clear hT cR
 go_wp2
 go_ret2
 exact ⟨t, hen.out, by rw [← hres.out]; rfl, chain hb hb2⟩
end G7
namespace G7
open G5
open G6 (ev rs rs_len rs_get IsSl conv_sl mb VAt.setR VAt.readR getD_set)
open Go.RowKit Mem

def rv (l : List R) (k : Nat) : List R := tab l.length fun m => if m < k ∨ l.length ≤ m + k then l.getD (l.length - 1 - m) 0 else l.getD m 0
theorem rv_len (l : List R) (k : Nat) : (rv l k).length = l.length := tab_len _ _
theorem rv_zero (l : List R) : rv l 0 = l := (tab_eq rfl fun j hj => by rw [if_neg (by omega)]).symm
theorem rv_at {l : List R} {k J : Nat} (h : k + J + 1 = l.length) (hlt : k < J) : (rv l k).getD k 0 = l.getD k 0 ∧ (rv l k).getD J 0 = l.getD J 0 := by
 constructor
 ·rw [rv, tab_get _ _ _ (by omega), if_neg (by omega)]
 ·rw [rv, tab_get _ _ _ (by omega), if_neg (by omega)]
theorem rv_step {l : List R} {k J : Nat} (h : k + J + 1 = l.length) (hlt : k < J) : ((rv l k).set k (l.getD J 0)).set J (l.getD k 0) = rv l (k + 1) := by
 unfold rv
 rw [tab_set _ _ _ _ (by omega), tab_set _ _ _ _ (by omega)]
 refine tab_congr fun m hm => ?_
 by_cases e : m = J
 ·subst e
  rw [if_pos rfl, if_pos (by omega)]
  congr 1
  omega
 ·rw [if_neg e]
  by_cases e2 : m = k
  ·subst e2
   rw [if_pos rfl, if_pos (by omega)]
   congr 1
   omega
  ·rw [if_neg e2]
   by_cases e3 : m < k ∨ l.length ≤ m + k
   ·rw [if_pos e3, if_pos (by omega)]
   ·rw [if_neg e3, if_neg (by omega)]
theorem rv_done {l : List R} {k J : Nat} (h : k + J + 1 = l.length) (hlt : ¬ k < J) : rv l k = l.reverse := by
 refine (tab_eq (by simp) fun m hm => ?_).symm
 rw [getD_rev _ _ hm]
 by_cases e : m < k ∨ l.length ≤ m + k
 ·rw [if_pos e]
 ·rw [if_neg e]
  congr 1
  omega

set_option maxHeartbeats 2000000 in
theorem rev_own {G n c : Nat} {l : List R} {w : World} (hat : VAt w G (rs l)) (hl : l.length = n) (hn : 1 ≤ n) (hn2 : n ≤ 1000) (hg : G < w.heap.size) {B : Nat} (hB : B ≤ G) :
  Calls Tryz.prog 168 #[.slice (some ⟨G, 0, none⟩) n c] w fun e w' => e = .returned (.tuple #[]) ∧ VAt w' G (rs l.reverse) ∧ G < w'.heap.size ∧ Below B w w' := by
 obtain ⟨N, hN⟩ : ∃ N, n = N + 1 := ⟨n - 1, by omega⟩
 have e1 : (n : Int) - 1 = (N : Int) := by omega
 have h0 := Lib.hid (show VAt w G (rs (rv l 0)) by rw [rv_zero]; exact hat)
 have hgh := Lib.hid hg
 have hlh := Lib.hid hl
 have hNh := Lib.hid hN
 have hN2 : N ≤ 1000 := by omega
 clear hat hg hl hN
 go_enter Tryz.func168, Tryz.ntmps168
 go_wp2
 go_loopw [2, 3] (fun a b wr => ∃ k J : Nat, Hid (k + J + 1 = n) ∧ k ≤ n ∧ J ≤ N ∧ a = .int .i64 k ∧ b = .int .i64 J ∧ Hid (VAt wr G (rs (rv l k))) ∧ Hid (G < wr.heap.size) ∧ Below B w wr) (fun _ b _ => (intOf b).toNat)
 case atStart => exact ⟨0, N, Lib.hid (by have := hNh.out; omega), Nat.zero_le _, Nat.le_refl _, rfl, rfl, h0, hgh, Below.refl _ _⟩
 case round =>
  clear h0 hgh
  obtain ⟨k, J, hkJ, hkn, hJN, rfl, rfl, hat, hgl, hb⟩ := hrel
  have hkl : k + J + 1 = l.length := by rw [hlh.out]; exact hkJ.out
  by_cases hlt : k < J
  ·obtain ⟨s1, s2⟩ := rv_at hkl hlt
   have s3 := rv_step hkl hlt
   obtain ⟨hn1, hf1⟩ := VAt.readR hat.out (k := k) (by rw [rv_len]; omega)
   obtain ⟨hn2, hf2⟩ := VAt.readR hat.out (k := J) (by rw [rv_len]; omega)
   rw [s1] at hn1
   rw [s2] at hn2
   obtain ⟨X, hX⟩ : ∃ X, l.getD k 0 = X := ⟨_, rfl⟩
   obtain ⟨Y, hY⟩ : ∃ Y, l.getD J 0 = Y := ⟨_, rfl⟩
   rw [hX] at hn1 s3
   rw [hY] at hn2 s3
   have hat2 := Lib.hid (show VAt ((wr.setCell ⟨G, k, none⟩ (bv Y)).setCell ⟨G, J, none⟩ (bv X)).drew G (rs (rv l (k + 1))) by
    have := (VAt.setR (VAt.setR hat.out (k := k) (by rw [rv_len]; omega) Y) (k := J) (by rw [List.length_set, rv_len]; omega) X).drew
    rw [s3] at this
    exact this)
   have hgl2 := Lib.hid (show G < ((wr.setCell ⟨G, k, none⟩ (bv Y)).setCell ⟨G, J, none⟩ (bv X)).drew.heap.size by simpa using hgl.out)
   have hb2 := ((hb.setCell (p := ⟨G, k, none⟩) hB (bv Y)).setCell (p := ⟨G, J, none⟩) hB (bv X)).drew
   obtain ⟨J', hJ'⟩ : ∃ J', J = J' + 1 := ⟨J - 1, by omega⟩
   have d0 : (k : Int) < (J : Int) := by omega
   have k0 : (0 : Int) ≤ (k : Int) := by omega
   have k1 : (k : Int) < (n : Int) := by rw [hlh.out] at hkl; omega
   have J0 : (0 : Int) ≤ (J : Int) := by omega
   have J1 : (J : Int) < (n : Int) := by rw [hlh.out] at hkl; omega
   have e2 : (J : Int) - 1 = (J' : Int) := by omega
   have hJh := Lib.hid hJ'
   clear hat hgl s1 s2 s3 hX hY hkl hJ' hb
   go_wp2
   go_region
   go_wp2
   go_roundw
   case rel => exact ⟨k + 1, J', Lib.hid (by have := hkJ.out; have := hJh.out; omega), by have := hkJ.out; omega, by have := hJh.out; omega, by go_num, rfl, hat2, hgl2, hb2⟩
   case measure => simp [intOf]; have := hJh.out; omega
  ·have d0 : ¬ (k : Int) < (J : Int) := by omega
   have hfin := Lib.hid (rv_done hkl hlt)
   clear hkl
   go_wp2
   go_end0
   exact ⟨rfl, by rw [← hfin.out]; exact hat.out, hgl.out, hb⟩

theorem ne_own (x : R) (w : World) : Calls Tryz.prog 180 #[bv x] w fun e w' => e = .returned (.bool (!(x == 0#8))) ∧ w = w' := by
 have t1 := G6.nz_el x
 obtain ⟨B, hB⟩ : ∃ B, (!(x == 0#8)) = B := ⟨_, rfl⟩
 rw [hB] at t1 ⊢
 clear hB
 go_enter Tryz.func180, Tryz.ntmps180
 go_wp2
 go_ret
 exact ⟨rfl, rfl⟩
def Fst (l : List R) (w : World) (e : Ending) (w' : World) : Prop := ∃ n : Int, e = .returned (.int .i64 n) ∧ decide (0 ≤ n) = !(l.all (· == 0)) ∧ w = w'
set_option maxHeartbeats 1000000 in
theorem idx_own {A : Option Addr} {n c : Nat} {l : List R} {w : World} (h : IsSl w A c l) (hl : l.length = n) (hn : n ≤ 1000) :
  Calls Tryz.prog 206 #[.slice A n c, .func (.func 180) #[] #[]] w (Fst l w) := by
 have hsh := Lib.hid h
 have hlh := Lib.hid hl
 clear h hl
 go_enter Tryz.func206, Tryz.ntmps206
 go_wp2
 go_loop [8] (fun a => ∃ k : Nat, k ≤ n ∧ a = .int .i64 k ∧ Hid (∀ x ∈ l.take k, x = 0)) (fun a => n - (intOf a).toNat)
 case atStart => exact ⟨0, Nat.zero_le _, rfl, Lib.hid (fun x h => by simp at h)⟩
 case round =>
  obtain ⟨k, hk, rfl, hz⟩ := hrel
  by_cases hlt : k < n
  ·obtain ⟨b, o, rfl, hb, hc⟩ := hsh.out.read k (by rw [hlh.out]; exact hlt)
   have hts := G6.take_snoc l k (by rw [hlh.out]; exact hlt)
   have hmem : l.getD k 0 ∈ l := by
    rw [List.getD_eq_getElem?_getD, List.getElem?_eq_getElem (by rw [hlh.out]; exact hlt)]
    exact List.getElem_mem _
   obtain ⟨X, hX⟩ : ∃ X, l.getD k 0 = X := ⟨_, rfl⟩
   rw [hX] at hc hts hmem
   have cN := ne_own X w
   have d0 : (k : Int) < (n : Int) := by omega
   have d1 : decide (k < n) = true := decide_eq_true hlt
   have k0 : (0 : Int) ≤ (k : Int) := by omega
   rcases he : X == 0#8 with _ | _
   ·rw [he] at cN
    have hal := Lib.hid (show l.all (· == 0) = false by
     rw [List.all_eq_false]
     exact ⟨X, hmem, by rw [show (X == 0) = false from he]; simp⟩)
    have cN := Lib.hid cN
    clear hX hts he hmem
    go_wp2_with fail
    refine cN.out.mono ?_
    rintro e w1 ⟨rfl, rfl⟩
    go_wp2
    go_ret
    exact ⟨_, rfl, by rw [hal.out]; exact decide_eq_true k0, rfl⟩
   ·rw [he] at cN
    have hz2 := Lib.hid (show ∀ x ∈ l.take (k + 1), x = 0 by
     intro x hx
     rw [hts] at hx
     rcases List.mem_append.1 hx with h | h
     ·exact hz.out x h
     ·rw [List.mem_singleton.1 h]
      simpa using he)
    have cN := Lib.hid cN
    clear hX hts he hmem
    go_wp2_with fail
    refine cN.out.mono ?_
    rintro e w1 ⟨rfl, rfl⟩
    go_wp2
    go_round
    case rel => exact ⟨k + 1, by omega, by go_num, hz2⟩
    case measure => simp [intOf]; omega
  ·have hal := Lib.hid (show l.all (· == 0) = true by
    rw [List.all_eq_true]
    intro x hx
    have := hz.out x (by rw [List.take_of_length_le (by rw [hlh.out]; omega)]; exact hx)
    rw [this]
    rfl)
   have d0 : ¬ (k : Int) < (n : Int) := by omega
   have d1 : decide (k < n) = false := decide_eq_false hlt
   go_wp2
   go_ret
   exact ⟨_, rfl, by rw [hal.out]; rfl, rfl⟩
theorem has_own {A : Option Addr} {n c : Nat} {l : List R} {w : World} (h : IsSl w A c l) (hl : l.length = n) (hn : n ≤ 1000) :
  Calls Tryz.prog 179 #[.slice A n c, .func (.func 180) #[] #[]] w fun e w' => e = .returned (.bool (!(l.all (· == 0)))) ∧ w = w' := by
 have cI := Lib.hid (idx_own h hl hn)
 obtain ⟨B, hB⟩ : ∃ B, (!(l.all (· == 0))) = B := ⟨_, rfl⟩
 have hBh := Lib.hid hB
 rw [hB]
 clear h hl hB
 go_enter Tryz.func179, Tryz.ntmps179
 go_wp2_with fail
 refine cI.out.mono ?_
 rintro e w1 ⟨i, rfl, hi, rfl⟩
 rw [hBh.out] at hi
 go_wp2
 go_ret
 exact ⟨rfl, rfl⟩
end G7
end Go.Proofs.YtiodkllckcpinaaGreatDoor
