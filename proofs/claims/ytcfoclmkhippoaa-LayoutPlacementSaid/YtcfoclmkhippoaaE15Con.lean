/- What the functions of layer 15 hand back, in memory. No function is named here. -/
import Derived.Test.YtcfoclmkhippoaaE15Sh
namespace Go.Proofs.Ytcfoclmkhippoaa.E15
set_option maxRecDepth 100000
open Go.RowKit Mem S14
open Go.Proofs.Ytcfoclmkhippoaa.G5 Go.Proofs.Ytcfoclmkhippoaa.G7
open Go.Proofs.Ytcfoclmkhippoaa.G6 (IsSl rs rs_len rs_get rs_set rs_one rs_snoc make_zeros zeros_at own_zeros info_byte u8s conv_sl)
set_option linter.unusedVariables false
set_option linter.unusedSimpArgs false

def RstP (l : List Rw) (d : Int) (w : World) (e : Ending) (w' : World) : Prop := ∃ (k : Int) (bl : List (List R)) (A : Option Addr) (c : Nat), RstQ l d k bl ∧ e = .returned (.tuple #[.slice A bl.length c, .int .i64 k]) ∧ IsBs w' A bl.length c bl ∧ Below w.heap.size w w'
def BlkP (l : List Rw) (d x : Int) (w : World) (e : Ending) (w' : World) : Prop := ∃ (k : Int) (b : List R), BlkQ l d x k b ∧ e = .returned (.tuple #[.string (str b), .int .i64 k]) ∧ Below w.heap.size w w'
def EncP (D : List (List R)) (m : Int) (w : World) (e : Ending) (w' : World) : Prop := ∃ (k : Int) (bl : List (List R)) (A : Option Addr) (c : Nat), EncQ D m k bl ∧ e = .returned (.tuple #[.slice A bl.length c, .int .i64 k]) ∧ IsBs w' A bl.length c bl ∧ Below w.heap.size w w'
theorem IsBs.zero (w : World) : IsBs w none 0 0 [] := ⟨rfl, Nat.le_refl _, by decide, fun _ => rfl, fun j h => (by simp [bs] at h)⟩
theorem err_zero {l : List Rw} {d : Int} (h : errR l d = 0) : ¬ (d < 1 ∨ 15 < d) ∧ IxOk l ∧ LenOk (l.map Prod.snd) ∧ ¬ (fst_ l d.toNat).length < d.toNat ∧ OnT (stO (fst_ l d.toNat)) (shs l) := by
  by_cases h1 : d < 1 ∨ 15 < d
  · rw [err_d h1] at h; cases h
  by_cases h2 : IxOk l
  · by_cases h3 : LenOk (l.map Prod.snd)
    · by_cases h4 : (fst_ l d.toNat).length < d.toNat
      · rw [err_lost h1 h2 h3 h4] at h; cases h
      · by_cases h5 : OnT (stO (fst_ l d.toNat)) (shs l)
        · exact ⟨h1, h2, h3, h4, h5⟩
        · rw [err_conf h1 h2 h3 h4 h5] at h; cases h
    · rw [err_len h1 h2 h3] at h; cases h
  · rw [err_ix h1 h2] at h; cases h
theorem fst_len {l : List Rw} {d : Nat} (h : ¬ (fst_ l d).length < d) : (fst_ l d).length = d := by
  have := (first_ok d (shs l)).le
  unfold fst_ at h ⊢
  omega
theorem fst_nodup (l : List Rw) (d : Nat) : ((fst_ l d).map Prod.fst).Nodup := (first_ok d (shs l)).nodup
theorem fst_sub (l : List Rw) (d : Nat) : ∀ s ∈ fst_ l d, s ∈ shs l := (first_ok d (shs l)).sub
theorem fst_same {l : List Rw} (h : LenOk (l.map Prod.snd)) (d : Nat) : ∀ s ∈ fst_ l d, s.2.length = nOf (fst_ l d) := fun s hs => by
  have h1 : ∀ s ∈ fst_ l d, s.2.length = ((l.map Prod.snd).headD []).length := fun s hs => by
    refine h _ ?_
    rw [← snd_shs]
    exact List.mem_map.2 ⟨s, fst_sub l d s hs, rfl⟩
  rw [h1 s hs, nOf_of (List.length_pos_of_mem hs) h1]
theorem fst_small {l : List Rw} {M : Nat} (h : ∀ r ∈ l, r.2.length ≤ M) (d : Nat) : nOf (fst_ l d) ≤ M := by
  rcases hf : fst_ l d with _ | ⟨s, f⟩
  · exact Nat.zero_le _
  · show s.2.length ≤ M
    have := fst_sub l d s (by rw [hf]; exact List.mem_cons_self)
    unfold shs at this
    obtain ⟨r, hr, rfl⟩ := List.mem_map.1 this
    exact h r hr
theorem fst_take_ {l : List Rw} {d D : Nat} (h : d ≤ D) : fst_ l d = (fst_ l D).take d := first_take h _ _ (Nat.zero_le _)
/-- Blocks numbered from 0 on. -/
def shD (D : List (List R)) : List Sh := (List.range D.length).map fun i => (pt i, D.getD i [])
theorem shD_len (D : List (List R)) : (shD D).length = D.length := by simp [shD]
theorem shD_raws {D : List (List R)} (h : D.length ≤ 256) : raws (shD D) = (List.range D.length).map fun (i : Nat) => ((i : Int), D.getD i []) := by
  unfold raws shD
  rw [List.map_map]
  refine List.map_congr_left fun i hi => ?_
  have := List.mem_range.1 hi
  show (((pt i).toNat : Int), _) = _
  rw [pt_val (by omega)]
theorem shD_fst (D : List (List R)) : (shD D).map Prod.fst = pts D.length := by
  unfold shD pts
  rw [List.map_map]
  rfl
theorem shD_snd (D : List (List R)) : (shD D).map Prod.snd = D := by
  unfold shD
  rw [List.map_map]
  refine List.ext_getElem (by simp) fun i h1 h2 => ?_
  simp [List.getD_eq_getElem?_getD, h2]
end Go.Proofs.Ytcfoclmkhippoaa.E15
