/- A slice of shares as an argument: what the reading says of it. -/
import Derived.Test.YtcakdhnlgeiodaaE15Sh
import Derived.ChangeReads
import Derived.OpenShut
import Derived.WalkKit
import Derived.ProofKit
import Derived.Deep.Slices
namespace Go.Proofs.Ytcakdhnlgeiodaa.E15
set_option maxRecDepth 100000
open Go.RowKit Mem S14 Go.ChangeShapes Go.WideShapes Go.ChangeAt
open Go.Proofs.Ytcakdhnlgeiodaa.G5 Go.Proofs.Ytcakdhnlgeiodaa.G7
set_option linter.unusedVariables false
set_option linter.unusedSimpArgs false

def FitR (p : Rw) : Prop := (-9223372036854775808 ≤ p.1 ∧ p.1 ≤ 9223372036854775807) ∧ p.2.length ≤ maxLen
/-- What a walk is told of a slice of shares that came in. -/
structure IsShares (w : World) (A : Option Addr) (n cap : Nat) (l : List Rw) : Prop where
  raw : IsRaw w A n cap l
  fit : ∀ r ∈ l, FitR r
theorem cells_share : Try.prog.cellsOf 32 = 2 := by kernel_rfl
theorem cells_shs : Try.prog.cellsOf 9 = 1 := by kernel_rfl
theorem cells_shi : Try.prog.cellsOf 3 = 1 := by kernel_rfl
section
variable {H : Type} {enc : TypeId × Value → H} {w : World} {base : Nat} {spare : Nat → Bool} {held : Bool} {r : Reach} {b0 : Nat}
theorem share_of_cells {cs : List Value} {fuel : Nat} {x : DataW H × List MemPlace} (hf : DataW.trod enc Try.prog w base spare held fuel 32 cs = some x) : ∃ p : Rw, FitR p ∧ cs = encR p := by
  obtain ⟨xs, n, _, _, hl, hlen, hel⟩ := DataW.trod_struct Try.underlying32 hf
  rw [cells_share] at hl
  match cs, hl with
  | [c0, c1], _ =>
    match xs, hlen with
    | [y0, y1], _ =>
      have e0 : DataW.trod enc Try.prog w base spare held n 3 (([c0, c1].drop 0).take (Try.prog.cellsOf 3)) = some y0 := hel 0 _ rfl
      have e1 : DataW.trod enc Try.prog w base spare held n 9 (([c0, c1].drop 1).take (Try.prog.cellsOf 9)) = some y1 := hel 1 _ rfl
      simp only [cells_shs, cells_shi, List.drop_zero, List.drop_succ_cons, List.take_succ_cons, List.take_zero] at e0 e1
      obtain ⟨m0, h0, _, w0⟩ := DataW.trod_int Try.underlying3 e0
      obtain ⟨s1, h1, _, w1⟩ := DataW.trod_string Try.underlying9 e1
      injection h0 with h0 _
      injection h1 with h1 _
      subst h0 h1
      have e := (Lit.wf_int_iff .i64 _).1 w0
      exact ⟨(m0, el s1), ⟨e, by rw [el_len]; exact w1⟩, by unfold encR; rw [str_el]⟩
theorem open_shares {fuel : Nat} {c : Value} {x : DataW H × List MemPlace} (h : DataW.trod enc Try.prog w base spare held fuel 30 [c] = some x) : ∃ A n cap fs, c = .slice A n cap ∧ IsShares w A n cap fs := by
  rcases Go.Deep.open_slice Try.underlying30 h with ⟨hc, _⟩ | ⟨a, len, cap, m, k, D, Pl, hc, _, hl, hm, hmm, _, hx⟩
  · injection hc with hc _
    exact ⟨none, 0, 0, [], hc, ⟨rfl, Nat.le_refl _, by decide, fun _ => rfl, fun j h => (by simp [rw_] at h)⟩, fun f h => (by cases h)⟩
  · injection hc with hc _
    rw [cells_share] at hx
    have hle : len ≤ m := by rw [hmm]; split <;> omega
    obtain ⟨fs, h1, h2, h3⟩ := rd_slice (w := w) (base := base) (n := len) (a := a) (s := 2) (enc := encR) (p := FitR) (by decide) encR_len (fun i hi => by
      obtain ⟨cs', h1, h2⟩ := hx i (by omega)
      obtain ⟨f, g1, g2⟩ := share_of_cells h2
      exact ⟨f, g1, by rw [h1, g2]⟩)
    exact ⟨some a, len, cap, fs, hc, ⟨h1, hl, hm, fun e => (by cases e), h3⟩, h2⟩
end
end Go.Proofs.Ytcakdhnlgeiodaa.E15
