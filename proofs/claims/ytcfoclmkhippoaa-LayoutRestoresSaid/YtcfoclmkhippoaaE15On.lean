/- Shares of one stripe, in whatever order: what Restore says of them. No walk. -/
import Derived.Test.YtcfoclmkhippoaaE15Mk
import Derived.Test.YtcfoclmkhippoaaE15Con
namespace Go.Proofs.Ytcfoclmkhippoaa.E15
set_option maxRecDepth 100000
open Go.RowKit Mem S14
open Go.Proofs.Ytcfoclmkhippoaa.G5 Go.Proofs.Ytcfoclmkhippoaa.G7
set_option linter.unusedVariables false
set_option linter.unusedSimpArgs false
theorem len_on {T : R → List R} {d n : Nat} {hs : List Sh} (hT : Stripe T d n) (h : OnT T hs) : LenOk ((raws hs).map Prod.snd) := by
  rw [snd_raws]
  have hall : ∀ b ∈ hs.map Prod.snd, b.length = n := fun b hb => by
    obtain ⟨s, hs', rfl⟩ := List.mem_map.1 hb
    rw [h s hs', hT.len]
  intro r hr
  rw [hall r hr, headD_get _ (List.length_pos_of_mem hr), hall _ (List.getElem_mem _)]
/-- Shares of one stripe, in whatever order: the error, and what is restored. -/
theorem rst_on {T : R → List R} {d n : Nat} {hs : List Sh} (hT : Stripe T d n) (hd1 : 1 ≤ d) (hd15 : d ≤ 15) (hO : OnT T hs) (hix : ∀ s ∈ hs, s.1.toNat ≤ 14) :
    ((firstF d [] hs).length < d → errR (raws hs) (d : Int) = 19) ∧ ((firstF d [] hs).length = d → errR (raws hs) (d : Int) = 0 ∧ ∀ x, stO (fst_ (raws hs) d) x = T x) := by
  have hd : ¬ ((d : Int) < 1 ∨ 15 < (d : Int)) := by omega
  have he : fst_ (raws hs) d = firstF d [] hs := by unfold fst_; rw [shs_raws]
  refine ⟨fun h => err_lost hd (ix_raws hix) (len_on hT hO) (by show (fst_ (raws hs) d).length < d; rw [he]; exact h), fun h => ?_⟩
  obtain ⟨r1, r2⟩ := recover hT hd1 hO h
  refine ⟨err_ok hd (ix_raws hix) (len_on hT hO) (by show ¬ (fst_ (raws hs) d).length < d; rw [he]; omega) (by show OnT (stO (fst_ (raws hs) d)) (shs (raws hs)); rw [he, shs_raws]; exact r2), fun x => by rw [he, r1]⟩
end Go.Proofs.Ytcfoclmkhippoaa.E15
