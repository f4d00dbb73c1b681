/- Some shares of an even stripe: what Restore says of them. No walk. -/
import Derived.Test.YtcakdhnlgeiodaaE15Con
import Derived.Test.YtcakdhnlgeiodaaE15Stri
namespace Go.Proofs.Ytcakdhnlgeiodaa.E15
set_option maxRecDepth 100000
open Go.RowKit Mem S14
open Go.Proofs.Ytcakdhnlgeiodaa.G5 Go.Proofs.Ytcakdhnlgeiodaa.G7
open Go.Proofs.Ytcakdhnlgeiodaa.G6 (IsSl rs rs_len rs_get rs_set rs_one rs_snoc make_zeros zeros_at own_zeros info_byte u8s conv_sl)
set_option linter.unusedVariables false
set_option linter.unusedSimpArgs false
/-- Some shares of an even stripe: what Restore says of them. -/
structure Sel (E : List (List R)) (m M : Nat) (hs : List Sh) : Prop where
  ev : Even E m
  hM : M ≤ 7
  sub : hs.Sublist (shA (stD E m) (E.length + M))
theorem Sel.len {E : List (List R)} {m M : Nat} {hs : List Sh} (h : Sel E m M hs) : hs.length ≤ 15 := by
  have := h.sub.length_le
  rw [shA_len] at this
  have := h.ev.hi
  have := h.hM
  omega
theorem Sel.nodup {E : List (List R)} {m M : Nat} {hs : List Sh} (h : Sel E m M hs) : (hs.map Prod.fst).Nodup := by
  have h8 := h.ev.hi
  have h7 := h.hM
  have h1 := h.sub.map Prod.fst
  rw [shA_fst] at h1
  exact h1.nodup (pts_nodup (by omega))
theorem Sel.on {E : List (List R)} {m M : Nat} {hs : List Sh} (h : Sel E m M hs) : OnT (stD E m) hs := onT_sub (shA_on _ _) fun s hs' => h.sub.subset hs'
theorem Sel.small {E : List (List R)} {m M : Nat} {hs : List Sh} (h : Sel E m M hs) : ∀ r ∈ raws hs, r.2.length ≤ 1000000 := fun r hr => by
  obtain ⟨s, hs', rfl⟩ := List.mem_map.1 hr
  show s.2.length ≤ _
  rw [h.on s hs', (stD_stripe E m).len]
  have := h.ev.m40
  omega
theorem Sel.ix {E : List (List R)} {m M : Nat} {hs : List Sh} (h : Sel E m M hs) : ∀ s ∈ hs, s.1.toNat ≤ 14 := fun s hs' => by
  have h8 := h.ev.hi
  have h7 := h.hM
  obtain ⟨i, hi, rfl⟩ := List.mem_map.1 (h.sub.subset hs')
  have := List.mem_range.1 hi
  show (pt i).toNat ≤ 14
  rw [pt_val (by omega)]
  omega
theorem len_on {T : R → List R} {d n : Nat} {hs : List Sh} (hT : Stripe T d n) (h : OnT T hs) : LenOk ((raws hs).map Prod.snd) := by
  rw [snd_raws]
  have hall : ∀ b ∈ hs.map Prod.snd, b.length = n := fun b hb => by
    obtain ⟨s, hs', rfl⟩ := List.mem_map.1 hb
    rw [h s hs', hT.len]
  intro r hr
  rw [hall r hr, headD_get _ (List.length_pos_of_mem hr), hall _ (List.getElem_mem _)]
/-- Shares of one stripe, in whatever order: the error, and what is restored. -/
theorem rst_on {T : R → List R} {d n : Nat} {hs : List Sh} (hT : Stripe T d n) (hd1 : 1 ≤ d) (hd15 : d ≤ 15) (hO : OnT T hs) (hix : ∀ s ∈ hs, s.1.toNat ≤ 14) :
    ((firstF d [] hs).length < d → errR (raws hs) (d : Int) = 19) ∧ ((firstF d [] hs).length = d → errR (raws hs) (d : Int) = 0 ∧ ∀ x, stO (fst_ (raws hs) d) x = T x) := by
  have hd : ¬ ((d : Int) < 1 ∨ 15 < (d : Int)) := by omega
  have he : fst_ (raws hs) d = firstF d [] hs := by unfold fst_; rw [shs_raws]
  refine ⟨fun h => err_lost hd (ix_raws hix) (len_on hT hO) (by show (fst_ (raws hs) d).length < d; rw [he]; exact h), fun h => ?_⟩
  obtain ⟨r1, r2⟩ := recover hT hd1 hO h
  refine ⟨err_ok hd (ix_raws hix) (len_on hT hO) (by show ¬ (fst_ (raws hs) d).length < d; rw [he]; omega) (by show OnT (stO (fst_ (raws hs) d)) (shs (raws hs)); rw [he, shs_raws]; exact r2), fun x => by rw [he, r1]⟩
theorem Sel.rst {E : List (List R)} {m M : Nat} {hs : List Sh} (h : Sel E m M hs) : (hs.length < E.length → errR (raws hs) (E.length : Int) = 19) ∧ (E.length ≤ hs.length → errR (raws hs) (E.length : Int) = 0 ∧ ∀ x, stO (fst_ (raws hs) E.length) x = stD E m x) := by
  obtain ⟨h1, h2⟩ := rst_on (stD_stripe E m) h.ev.lo (by have := h.ev.hi; omega) h.on h.ix
  refine ⟨fun hl => h1 (by have := first_len E.length hs []; simp at this; omega), fun hl => h2 (first_all h.nodup hl)⟩
theorem even_back {E : List (List R)} {m : Nat} (h : Even E m) : ((List.range E.length).map fun i => stD E m (pt i)) = E := by
  have h8 := h.hi
  refine List.ext_getElem (by simp) fun i h1 h2 => ?_
  rw [List.getElem_map, List.getElem_range, stD_at (by omega) h.len h2]
  simp [List.getD_eq_getElem?_getD, h2]
end Go.Proofs.Ytcakdhnlgeiodaa.E15
