/- Plain facts for layer 15: what the functions of the layer hand back, as functions on lists; recovery, detection, order. No program is named here. -/
import Derived.Test.YtcfoclmkhippoaaE15Wt
namespace Go.Proofs.Ytcfoclmkhippoaa.E15
open Go.Proofs.Ytcfoclmkhippoaa.G5
open Go.Proofs.Ytcfoclmkhippoaa.G6
set_option linter.unusedVariables false
set_option linter.unusedSimpArgs false

/-- The point of block i. -/
def pt (i : Nat) : R := BitVec.ofNat 8 i
theorem pt_val {i : Nat} (h : i < 256) : (pt i).toNat = i := by
  unfold pt
  rw [BitVec.toNat_ofNat]
  omega
theorem pt_inj {i j : Nat} (hi : i < 256) (hj : j < 256) (h : pt i = pt j) : i = j := by rw [← pt_val hi, ← pt_val hj, h]
theorem pt_of (x : R) : pt x.toNat = x := by simp [pt]
def pts (n : Nat) : List R := (List.range n).map pt
theorem pts_len (n : Nat) : (pts n).length = n := by simp [pts]
theorem pts_get {n i : Nat} (h : i < n) : (pts n).getD i 0 = pt i := by simp [pts, List.getD_eq_getElem?_getD, h]
theorem nodup_map_pt {l : List Nat} (hl : ∀ i ∈ l, i < 256) (h : l.Nodup) : (l.map pt).Nodup := by
  induction l with
  | nil => simp
  | cons a l ih =>
    rw [List.nodup_cons] at h
    rw [List.map_cons, List.nodup_cons]
    refine ⟨fun hm => ?_, ih (fun i hi => hl i (List.mem_cons_of_mem _ hi)) h.2⟩
    obtain ⟨b, hb, e⟩ := List.mem_map.1 hm
    rw [pt_inj (hl b (List.mem_cons_of_mem _ hb)) (hl a List.mem_cons_self) e] at hb
    exact h.1 hb
theorem pts_nodup {n : Nat} (h : n ≤ 256) : (pts n).Nodup := nodup_map_pt (fun i hi => by have := List.mem_range.1 hi; omega) List.nodup_range
/-- The stripe of data blocks. -/
def stD (D : List (List R)) (n : Nat) : R → List R := blk (pts D.length) D n
theorem stD_stripe (D : List (List R)) (n : Nat) : Stripe (stD D n) D.length n := by
  have := blk_stripe (pts D.length) D n
  rw [pts_len] at this
  exact this
theorem stD_at {D : List (List R)} {n : Nat} (hl : D.length ≤ 256) (hn : ∀ b ∈ D, b.length = n) {i : Nat} (hi : i < D.length) : stD D n (pt i) = D.getD i [] := by
  have e : D.getD i [] = D[i] := by simp [List.getD_eq_getElem?_getD, hi]
  have h := blk_at (pts_nodup hl) (pts_len D.length).symm (n := n) (j := i) (by rw [pts_len]; exact hi) (by rw [e]; exact hn _ (List.getElem_mem hi))
  rw [pts_get hi] at h
  exact h
/-- The length of the first share's block, and the stripe through shares. -/
def nOf (f : List Sh) : Nat := (f.map fun s => s.2.length).headD 0
def stO (f : List Sh) : R → List R := blk (f.map Prod.fst) (f.map Prod.snd) (nOf f)
theorem nOf_of {f : List Sh} {n : Nat} (h0 : 0 < f.length) (h : ∀ s ∈ f, s.2.length = n) : nOf f = n := by
  cases f with
  | nil => cases h0
  | cons s f => exact h s List.mem_cons_self
theorem getD_map' {α β : Type} (g : α → β) (l : List α) (j : Nat) (hj : j < l.length) (b : β) : (l.map g).getD j b = g l[j] := by
  simp [List.getD_eq_getElem?_getD, hj]
/-- Shares of one stripe, as many as it has data blocks, with different numbers: their stripe is this one. -/
theorem through {T : R → List R} {d n : Nat} {f : List Sh} (hT : Stripe T d n) (hd : 0 < d) (h1 : (f.map Prod.fst).Nodup) (h2 : OnT T f) (h3 : f.length = d) (x : R) : stO f x = T x := by
  have hn : nOf f = n := nOf_of (by omega) fun s hs => by rw [h2 s hs, hT.len]
  unfold stO
  rw [hn]
  subst h3
  refine Stripe.through (T := T) (by rw [List.length_map]; exact hT) h1 (by rw [List.length_map, List.length_map]) (fun j hj => ?_) x
  rw [List.length_map] at hj
  rw [getD_map' _ _ _ hj, getD_map' _ _ _ hj]
  exact h2 _ (List.getElem_mem hj)
theorem onT_sub {T : R → List R} {f hs : List Sh} (h : OnT T hs) (hs' : ∀ s ∈ f, s ∈ hs) : OnT T f := fun s h' => h s (hs' s h')
theorem nodup_le : ∀ (a b : List R), a.Nodup → (∀ x ∈ a, x ∈ b) → a.length ≤ b.length
  | [], _, _, _ => Nat.zero_le _
  | x :: a, b, hn, hs => by
    rw [List.nodup_cons] at hn
    have hx := hs x List.mem_cons_self
    have ih := nodup_le a (b.erase x) hn.2 fun y hy => (List.mem_erase_of_ne (fun e : y = x => hn.1 (by rw [← e]; exact hy))).2 (hs y (List.mem_cons_of_mem _ hy))
    rw [List.length_erase_of_mem hx] at ih
    have := List.length_pos_of_mem hx
    rw [List.length_cons]
    omega
theorem first_all {d : Nat} {hs : List Sh} (hn : (hs.map Prod.fst).Nodup) (hd : d ≤ hs.length) : (firstF d [] hs).length = d := by
  have h := first_ok d hs
  by_cases hl : (firstF d [] hs).length < d
  · have ha := h.all hl
    exfalso
    have : (hs.map Prod.fst).length ≤ ((firstF d [] hs).map Prod.fst).length := by
      refine nodup_le _ _ hn fun x hx => ?_
      obtain ⟨s, hs', rfl⟩ := List.mem_map.1 hx
      exact ha s hs'
    rw [List.length_map, List.length_map] at this
    omega
  · have := h.le
    omega
/-- Recovery: from shares of one stripe, enough of them. -/
theorem recover {T : R → List R} {d n : Nat} {hs : List Sh} (hT : Stripe T d n) (hd : 0 < d) (hO : OnT T hs) (hf : (firstF d [] hs).length = d) : (∀ x, stO (firstF d [] hs) x = T x) ∧ OnT (stO (firstF d [] hs)) hs := by
  have h := first_ok d hs
  have e := fun x => through hT hd h.nodup (onT_sub hO h.sub) hf x
  exact ⟨e, fun s hs' => by rw [e]; exact hO s hs'⟩
/-- Detection: shares of one stripe but one, more than it has data blocks. -/
theorem detect {T : R → List R} {d n : Nat} {hs : List Sh} {k : Nat} {b : List R} (hT : Stripe T d n) (hd : 0 < d) (hO : OnT T hs) (hn : (hs.map Prod.fst).Nodup) (hl : d < hs.length) (hk : k < hs.length) (hb : b ≠ hs[k].2) (hbl : b.length = n) : ¬ OnT (stO (firstF d [] (hs.set k (hs[k].1, b)))) (hs.set k (hs[k].1, b)) := fun hO2 => by
  have hfst : (hs.set k (hs[k].1, b)).map Prod.fst = hs.map Prod.fst := by
    rw [List.map_set]
    show (hs.map Prod.fst).set k hs[k].1 = _
    have : hs[k].1 = (hs.map Prod.fst)[k]'(by rw [List.length_map]; exact hk) := by simp
    rw [this, List.set_getElem_self]
  have hlen : (firstF d [] (hs.set k (hs[k].1, b))).length = d := first_all (by rw [hfst]; exact hn) (by rw [List.length_set]; omega)
  have hq := first_ok d (hs.set k (hs[k].1, b))
  have hnO : nOf (firstF d [] (hs.set k (hs[k].1, b))) = n := nOf_of (by omega) fun s hs' => by
    rcases List.mem_or_eq_of_mem_set (hq.sub s hs') with h | h
    · rw [hO s h, hT.len]
    · rw [h]; exact hbl
  have hU : Stripe (stO (firstF d [] (hs.set k (hs[k].1, b)))) d n := by
    have := blk_stripe ((firstF d [] (hs.set k (hs[k].1, b))).map Prod.fst) ((firstF d [] (hs.set k (hs[k].1, b))).map Prod.snd) n
    rw [List.length_map, hlen] at this
    unfold stO
    rw [hnO]
    exact this
  -- all shares but k lie on both
  have hsame := Stripe.only hU hT (xl := (hs.eraseIdx k).map Prod.fst) (hn.sublist ((List.eraseIdx_sublist _ _).map _)) (by rw [List.length_map, List.length_eraseIdx, if_pos hk]; omega) (fun x hx => by
    obtain ⟨s, hs', rfl⟩ := List.mem_map.1 hx
    obtain ⟨j, hj1, hjk, rfl⟩ := List.mem_eraseIdx_iff_getElem.1 hs'
    have hm : hs[j] ∈ hs.set k (hs[k].1, b) := by
      refine List.mem_iff_getElem.2 ⟨j, by rw [List.length_set]; exact hj1, ?_⟩
      rw [List.getElem_set_ne (fun e => hjk e.symm)]
    rw [← hO2 _ hm, ← hO _ (List.getElem_mem hj1)])
  have hm : (hs[k].1, b) ∈ hs.set k (hs[k].1, b) := List.mem_iff_getElem.2 ⟨k, by rw [List.length_set]; exact hk, by rw [List.getElem_set_self]⟩
  have e1 := hO2 _ hm
  have e2 := hO _ (List.getElem_mem hk)
  rw [hsame] at e1
  exact hb (by rw [e2]; exact e1)
/-- Order and repetition: the same shares, in another order and repeatedly, have as many first ones. -/
theorem first_same {d : Nat} {hs ms : List Sh} (hn : (hs.map Prod.fst).Nodup) (h1 : ∀ s ∈ ms, s ∈ hs) (h2 : ∀ s ∈ hs, s ∈ ms) : (firstF d [] ms).length = d ↔ d ≤ hs.length := by
  have h := first_ok d ms
  constructor
  · intro e
    have : ((firstF d [] ms).map Prod.fst).length ≤ (hs.map Prod.fst).length := nodup_le _ _ h.nodup (fun x hx => by
      obtain ⟨s, hs', rfl⟩ := List.mem_map.1 hx
      exact List.mem_map.2 ⟨s, h1 s (h.sub s hs'), rfl⟩)
    rw [List.length_map, List.length_map] at this
    omega
  · intro e
    by_cases hl : (firstF d [] ms).length < d
    · exfalso
      have : (hs.map Prod.fst).length ≤ ((firstF d [] ms).map Prod.fst).length := nodup_le _ _ hn (fun x hx => by
        obtain ⟨s, hs', rfl⟩ := List.mem_map.1 hx
        exact h.all hl s (h2 s hs'))
      rw [List.length_map, List.length_map] at this
      omega
    · have := h.le
      omega

/-! ### What the functions hand back -/
abbrev Rw := Int × List R
def shs (l : List Rw) : List Sh := l.map fun r => (BitVec.ofInt 8 r.1, r.2)
def raws (l : List Sh) : List Rw := l.map fun s => ((s.1.toNat : Int), s.2)
theorem shs_len (l : List Rw) : (shs l).length = l.length := by simp [shs]
theorem raws_len (l : List Sh) : (raws l).length = l.length := by simp [raws]
theorem shs_raws (l : List Sh) : shs (raws l) = l := by
  unfold shs raws
  rw [List.map_map]
  conv => rhs; rw [← List.map_id l]
  refine List.map_congr_left fun s _ => ?_
  show (BitVec.ofInt 8 ((s.1.toNat : Nat) : Int), s.2) = s
  rw [BitVec.ofInt_natCast, BitVec.ofNat_toNat, BitVec.setWidth_eq]
def IxOk (l : List Rw) : Prop := ∀ r ∈ l, 0 ≤ r.1 ∧ r.1 ≤ 14
def LenOk (l : List (List R)) : Prop := ∀ r ∈ l, r.length = (l.headD []).length
theorem raws_shs {l : List Rw} (h : IxOk l) : raws (shs l) = l := by
  unfold shs raws
  rw [List.map_map]
  conv => rhs; rw [← List.map_id l]
  refine List.map_congr_left fun r hr => ?_
  obtain ⟨h1, h2⟩ := h r hr
  show (((BitVec.ofInt 8 r.1).toNat : Int), r.2) = r
  obtain ⟨z, b⟩ := r
  dsimp only at h1 h2
  obtain ⟨i, rfl⟩ := Int.eq_ofNat_of_zero_le h1
  have : ((BitVec.ofInt 8 (i : Int)).toNat : Int) = (i : Int) := by
    rw [BitVec.ofInt_natCast, BitVec.toNat_ofNat]
    omega
  show (((BitVec.ofInt 8 (i : Int)).toNat : Int), b) = ((i : Int), b)
  rw [this]
theorem shs_small {l : List Rw} (h : IxOk l) : ∀ s ∈ shs l, s.1.toNat ≤ 14 := fun s hs => by
  obtain ⟨r, hr, rfl⟩ := List.mem_map.1 hs
  obtain ⟨h1, h2⟩ := h r hr
  obtain ⟨z, b⟩ := r
  dsimp only at h1 h2 ⊢
  obtain ⟨i, rfl⟩ := Int.eq_ofNat_of_zero_le h1
  rw [BitVec.ofInt_natCast, BitVec.toNat_ofNat]
  omega
theorem ix_raws {l : List Sh} (h : ∀ s ∈ l, s.1.toNat ≤ 14) : IxOk (raws l) := fun r hr => by
  obtain ⟨s, hs, rfl⟩ := List.mem_map.1 hr
  have := h s hs
  show 0 ≤ (s.1.toNat : Int) ∧ (s.1.toNat : Int) ≤ 14
  omega
theorem snd_shs (l : List Rw) : (shs l).map Prod.snd = l.map Prod.snd := by
  unfold shs
  rw [List.map_map]
  rfl
theorem snd_raws (l : List Sh) : (raws l).map Prod.snd = l.map Prod.snd := by
  unfold raws
  rw [List.map_map]
  rfl
/-- The first d shares with different numbers. -/
def fst_ (l : List Rw) (d : Nat) : List Sh := firstF d [] (shs l)
open Classical in
/-- The error of Restore. -/
noncomputable def errR (l : List Rw) (d : Int) : Int :=
  if d < 1 ∨ 15 < d then 1 else if ¬ IxOk l then 2 else if ¬ LenOk (l.map Prod.snd) then 1 else if (fst_ l d.toNat).length < d.toNat then 19 else if ¬ OnT (stO (fst_ l d.toNat)) (shs l) then 20 else 0
theorem err_d {l : List Rw} {d : Int} (h : d < 1 ∨ 15 < d) : errR l d = 1 := if_pos h
theorem err_ix {l : List Rw} {d : Int} (h : ¬ (d < 1 ∨ 15 < d)) (h1 : ¬ IxOk l) : errR l d = 2 := by
  unfold errR
  rw [if_neg h, if_pos h1]
theorem err_len {l : List Rw} {d : Int} (h : ¬ (d < 1 ∨ 15 < d)) (h1 : IxOk l) (h2 : ¬ LenOk (l.map Prod.snd)) : errR l d = 1 := by
  unfold errR
  rw [if_neg h, if_neg (not_not_intro h1), if_pos h2]
theorem err_lost {l : List Rw} {d : Int} (h : ¬ (d < 1 ∨ 15 < d)) (h1 : IxOk l) (h2 : LenOk (l.map Prod.snd)) (h3 : (fst_ l d.toNat).length < d.toNat) : errR l d = 19 := by
  unfold errR
  rw [if_neg h, if_neg (not_not_intro h1), if_neg (not_not_intro h2), if_pos h3]
theorem err_conf {l : List Rw} {d : Int} (h : ¬ (d < 1 ∨ 15 < d)) (h1 : IxOk l) (h2 : LenOk (l.map Prod.snd)) (h3 : ¬ (fst_ l d.toNat).length < d.toNat) (h4 : ¬ OnT (stO (fst_ l d.toNat)) (shs l)) : errR l d = 20 := by
  unfold errR
  rw [if_neg h, if_neg (not_not_intro h1), if_neg (not_not_intro h2), if_neg h3, if_pos h4]
theorem err_ok {l : List Rw} {d : Int} (h : ¬ (d < 1 ∨ 15 < d)) (h1 : IxOk l) (h2 : LenOk (l.map Prod.snd)) (h3 : ¬ (fst_ l d.toNat).length < d.toNat) (h4 : OnT (stO (fst_ l d.toNat)) (shs l)) : errR l d = 0 := by
  unfold errR
  rw [if_neg h, if_neg (not_not_intro h1), if_neg (not_not_intro h2), if_neg h3, if_neg (not_not_intro h4)]
/-- What Restore hands back. -/
structure RstQ (l : List Rw) (d : Int) (k : Int) (bl : List (List R)) : Prop where
  err : k = errR l d
  yes : k = 0 → bl = (List.range d.toNat).map fun i => stO (fst_ l d.toNat) (pt i)
  no : k ≠ 0 → bl = []
theorem RstQ.only {l : List Rw} {d k k' : Int} {bl bl' : List (List R)} (h : RstQ l d k bl) (h' : RstQ l d k' bl') : k = k' ∧ bl = bl' := by
  have e : k = k' := by rw [h.err, h'.err]
  refine ⟨e, ?_⟩
  subst e
  by_cases h0 : k = 0
  · rw [h.yes h0, h'.yes h0]
  · rw [h.no h0, h'.no h0]
/-- What Block hands back. -/
structure BlkQ (l : List Rw) (d x : Int) (k : Int) (b : List R) : Prop where
  err : k = if x < 0 ∨ 14 < x then 2 else errR l d
  yes : k = 0 → b = stO (fst_ l d.toNat) (pt x.toNat)
  no : k ≠ 0 → b = []
theorem BlkQ.only {l : List Rw} {d x k k' : Int} {b b' : List R} (h : BlkQ l d x k b) (h' : BlkQ l d x k' b') : k = k' ∧ b = b' := by
  have e : k = k' := by rw [h.err, h'.err]
  refine ⟨e, ?_⟩
  subst e
  by_cases h0 : k = 0
  · rw [h.yes h0, h'.yes h0]
  · rw [h.no h0, h'.no h0]
/-- What Encode hands back. -/
def EncBad (D : List (List R)) (m : Int) : Prop := D = [] ∨ m < 0 ∨ 15 < (D.length : Int) + m ∨ ¬ LenOk D
structure EncQ (D : List (List R)) (m : Int) (k : Int) (bl : List (List R)) : Prop where
  err : k = 0 ∨ k = 1
  yes : k = 0 → ¬ EncBad D m ∧ bl = (List.range m.toNat).map fun j => stD D (D.headD []).length (pt (D.length + j))
  no : k = 1 → EncBad D m ∧ bl = []
theorem EncQ.only {D : List (List R)} {m k k' : Int} {bl bl' : List (List R)} (h : EncQ D m k bl) (h' : EncQ D m k' bl') : k = k' ∧ bl = bl' := by
  rcases h.err with e | e <;> rcases h'.err with e' | e'
  · exact ⟨by rw [e, e'], by rw [(h.yes e).2, (h'.yes e').2]⟩
  · exact absurd (h'.no e').1 (h.yes e).1
  · exact absurd (h.no e).1 (h'.yes e').1
  · exact ⟨by rw [e, e'], by rw [(h.no e).2, (h'.no e').2]⟩
theorem EncQ.ok {D : List (List R)} {m k : Int} {bl : List (List R)} (h : EncQ D m k bl) (hb : ¬ EncBad D m) : k = 0 := by
  rcases h.err with e | e
  · exact e
  · exact absurd (h.no e).1 hb
end Go.Proofs.Ytcfoclmkhippoaa.E15
