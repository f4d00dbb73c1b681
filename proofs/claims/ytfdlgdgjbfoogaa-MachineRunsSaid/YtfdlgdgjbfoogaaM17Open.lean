/- The arguments of the laws of layer 17: what the reading says of them. -/
import Derived.Test.YtfdlgdgjbfoogaaM17OwnG
import Derived.ChangeReads
import Derived.OpenShut
import Derived.WalkKit
import Derived.ProofKit
import Derived.Deep.Slices
import Derived.DataShut
namespace Go.Proofs.Ytfdlgdgjbfoogaa.M17
set_option maxRecDepth 100000
open Go.RowKit Mem S14 Go.ChangeShapes Go.WideShapes Go.ChangeAt
set_option linter.unusedVariables false
set_option linter.unusedSimpArgs false

theorem IsInp.of_row {w : World} {A : Option Addr} {n cap : Nat} {zs : List Int} (h : IsRow .u32 w A n cap zs) : ∃ l, IsInp w A n cap l := by
  rcases h with ⟨rfl, rfl, rfl, rfl⟩ | ⟨x, rfl, hle, hcap, hzl, hcell, hwf⟩
  · exact ⟨[], rfl, Nat.le_refl _, by decide, fun _ => rfl, fun j h => (by simp [us] at h), fun z h => (by cases h)⟩
  · have hfit : ∀ z ∈ zs, 0 ≤ z ∧ z ≤ 4294967295 := fun z hz => (Lit.wf_int_iff .u32 _).1 (hwf z hz)
    refine ⟨(zs.take n).map Int.toNat, (by simp; omega), hle, hcap, (fun h => by cases h), fun j hj => ?_, ?_⟩
    rotate_left
    · intro z hz
      obtain ⟨q, hq, rfl⟩ := List.mem_map.1 hz
      have := hfit q (List.mem_of_mem_take hq)
      omega
    · rw [us_len] at hj
      have hj' : j < n := by simp at hj; omega
      obtain ⟨b, o, spot⟩ := x
      have h0 := hcell 0 (by omega)
      have hspot : spot = none := by simpa [Addr.add] using World.cell?_spot h0
      subst hspot
      refine ⟨b, o, rfl, World.block_lt_of_cell? _ _ h0, ?_⟩
      have hc := hcell j (by omega)
      have e : (⟨b, o, none⟩ : Addr).add j = ⟨b, o + j, none⟩ := by
        by_cases h : j = 0
        · subst h; rfl
        · simp [Addr.add, h]
      have hjz : j < zs.length := by omega
      rw [e, List.getD_eq_getElem?_getD, List.getElem?_eq_getElem hjz] at hc
      have hz := hfit zs[j] (List.getElem_mem _)
      rw [hc]
      simp only [us, List.getElem_map, List.getElem_take, Option.getD_some]
      rw [Int.toNat_of_nonneg hz.1]
theorem cells_txt : Try.prog.cellsOf 38 = 2 := by kernel_rfl
theorem cells_txs : Try.prog.cellsOf 9 = 1 := by kernel_rfl
theorem cells_txi : Try.prog.cellsOf 3 = 1 := by kernel_rfl
section
variable {H : Type} {enc : TypeId × Value → H} {w : World} {base : Nat} {spare : Nat → Bool} {held : Bool} {r : Reach} {b0 : Nat}
theorem txt_of_cells {cs : List Value} {fuel : Nat} {x : DataW H × List MemPlace} (hf : DataW.trod enc Try.prog w base spare held fuel 38 cs = some x) : ∃ p : Txt, FitT p ∧ cs = encT p := by
  obtain ⟨xs, n, _, _, hl, hlen, hel⟩ := DataW.trod_struct Try.underlying38 hf
  rw [cells_txt] at hl
  match cs, hl with
  | [c0, c1], _ =>
    match xs, hlen with
    | [y0, y1], _ =>
      have e0 : DataW.trod enc Try.prog w base spare held n 3 (([c0, c1].drop 0).take (Try.prog.cellsOf 3)) = some y0 := hel 0 _ rfl
      have e1 : DataW.trod enc Try.prog w base spare held n 9 (([c0, c1].drop 1).take (Try.prog.cellsOf 9)) = some y1 := hel 1 _ rfl
      simp only [cells_txs, cells_txi, List.drop_zero, List.drop_succ_cons, List.take_succ_cons, List.take_zero] at e0 e1
      obtain ⟨m0, h0, _, w0⟩ := DataW.trod_int Try.underlying3 e0
      obtain ⟨s1, h1, _, w1⟩ := DataW.trod_string Try.underlying9 e1
      injection h0 with h0 _
      injection h1 with h1 _
      subst h0 h1
      have e := (Lit.wf_int_iff .i64 _).1 w0
      exact ⟨(m0, s1), ⟨e, w1⟩, rfl⟩
theorem open_texts {fuel : Nat} {c : Value} {x : DataW H × List MemPlace} (h : DataW.trod enc Try.prog w base spare held fuel 22 [c] = some x) : ∃ A n cap fs, c = .slice A n cap ∧ IsTxts w A n cap fs := by
  rcases Go.Deep.open_slice Try.underlying22 h with ⟨hc, _⟩ | ⟨a, len, cap, m, k, D, Pl, hc, _, hl, hm, hmm, _, hx⟩
  · injection hc with hc _
    exact ⟨none, 0, 0, [], hc, rfl, Nat.le_refl _, by decide, fun _ => rfl, fun j h => (by simp at h), fun f h => (by cases h)⟩
  · injection hc with hc _
    rw [cells_txt] at hx
    have hle : len ≤ m := by rw [hmm]; split <;> omega
    obtain ⟨fs, h1, h2, h3⟩ := rd_slice (w := w) (base := base) (n := len) (a := a) (s := 2) (enc := encT) (p := FitT) (by decide) encT_len (fun i hi => by
      obtain ⟨cs', h1, h2⟩ := hx i (by omega)
      obtain ⟨f, g1, g2⟩ := txt_of_cells h2
      exact ⟨f, g1, by rw [h1, g2]⟩)
    exact ⟨some a, len, cap, fs, hc, h1, hl, hm, fun e => (by cases e), h3, h2⟩
end
end Go.Proofs.Ytfdlgdgjbfoogaa.M17
