/- What the contracts of the landed package's rounds take: its two variables, arrays of bytes, a round's step. -/
import Derived.Test.YtkppepdniehoiaaDoorB4Own1
import Derived.Test.YtkppepdniehoiaaDoorParts
import Derived.Deep.WholeRow
namespace Go.Proofs.YtkppepdniehoiaaDoor.B4
open Go.RowKit Mem
set_option linter.unusedVariables false
set_option linter.unusedSimpArgs false

/-- The permutations' bytes, as the package's variable holds them. -/
def bvs (l : List Nat) : List Value := l.map fun n : Nat => .int .u8 (n : Int)
def rowP (r : Nat) : List Nat := (List.range 16).map (pm r)
def permA : Array Value := ((List.range 10).flatMap fun r => bvs (rowP r)).toArray
def Laid (w : World) : Prop := w.var? Tryd.prog "stele/blake2s.initial" = some (wvs ivL).toArray ∧ w.var? Tryd.prog "stele/blake2s.permutations" = some permA
theorem gInit : Tryd.prog.globalNamed "stele/blake2s.initial" = some 0 := by kernel_rfl
theorem gPerm : Tryd.prog.globalNamed "stele/blake2s.permutations" = some 1 := by kernel_rfl
theorem block_of_var {w : World} {n : String} {g : Nat} {cs : Array Value} (hg : Tryd.prog.globalNamed n = some g) (h : w.var? Tryd.prog n = some cs) : ∃ t fr, w.heap[g]? = some (.cells cs t fr) := by
  unfold World.var? at h
  rw [hg] at h
  simp only [Option.bind_some] at h
  split at h
  · rename_i cs' t fr hc
    cases h
    exact ⟨t, fr, hc⟩
  · cases h
theorem pm_lt (r k : Nat) (hr : r < 10) (hk : k < 16) : pm r k < 16 := by
  have : ∀ r, r < 10 → ∀ k, k < 16 → pm r k < 16 := by decide +kernel
  exact this r hr k hk
theorem info_perm : (Tryd.prog.info? 61).map (·.size) = some permA.size := by kernel_rfl
theorem idx_perm (k : Nat) (hk : k < 10) (w : World) : (Instr.index 61 (.agg permA) (.int .i64 k)).run Tryd.prog w = .ok (.agg (bvs (rowP k)).toArray) w := by
  obtain rfl | rfl | rfl | rfl | rfl | rfl | rfl | rfl | rfl | rfl : k = 0 ∨ k = 1 ∨ k = 2 ∨ k = 3 ∨ k = 4 ∨ k = 5 ∨ k = 6 ∨ k = 7 ∨ k = 8 ∨ k = 9 := by omega
  all_goals kernel_rfl
/-- Block G is an array of bytes: these. -/
def Arb (t : TypeId) (w : World) (G : Nat) (l : List Nat) : Prop := w.heap[G]? = some (.cells (bvs l).toArray t (0, 0))
theorem Arb.cell {t : TypeId} {w : World} {G : Nat} {l : List Nat} (h : Arb t w G l) (i : Nat) (hi : i < l.length) : w.cell? ⟨G, i, none⟩ = some (.int .u8 (l[i] : Int)) := by
  rw [Lib.cell_of_heap h]
  simp [bvs, hi]
theorem Arb.far {t : TypeId} {w : World} {G H i : Nat} {l : List Nat} (h : Arb t w G l) (hne : G ≠ H) (u : Value) : Arb t (w.setCell ⟨H, i, none⟩ u) G l := by
  unfold Arb
  rw [heap_setCell_other _ _ _ _ hne]
  exact h
theorem Arb.drew {t : TypeId} {w : World} {G : Nat} {l : List Nat} (h : Arb t w G l) : Arb t w.drew G l := h
theorem bvs_len (l : List Nat) : (bvs l).length = l.length := by simp [bvs]
theorem bvs_one (l : List Nat) : (bvs l).toArray.all (·.oneCell') = true := by
  rw [Array.all_eq_true_iff_forall_mem]
  intro v hv
  simp [bvs] at hv
  obtain ⟨x, _, rfl⟩ := hv
  rfl
theorem rowP_len (r : Nat) : (rowP r).length = 16 := by simp [rowP]
theorem rowP_get (r i : Nat) (h : i < 16) : (rowP r)[i]'(by rw [rowP_len]; exact h) = pm r i := by simp [rowP]
def zerosB : List Nat := [0, 0, 0, 0, 0, 0, 0, 0, 0, 0, 0, 0, 0, 0, 0, 0]
theorem info_16b : (Tryd.prog.info? 60).map (·.size) = some 16 := by kernel_rfl
theorem stepL_of (m v : List R) (r k a b c d i j : Nat) (x y A B C D : R) (hc : (colL k).getD 0 0 = a ∧ (colL k).getD 1 0 = b ∧ (colL k).getD 2 0 = c ∧ (colL k).getD 3 0 = d) (hi : pm r (2 * k) = i) (hj : pm r (2 * k + 1) = j) (hx : g m i = x) (hy : g m j = y) (hv : v.length = 16)
    (hok : (decide (a < 16) && decide (b < 16) && decide (c < 16) && decide (d < 16) && decide (a ≠ b) && decide (a ≠ c) && decide (a ≠ d) && decide (b ≠ c) && decide (b ≠ d) && decide (c ≠ d)) = true)
    (hm : mx (g v a) (g v b) (g v c) (g v d) x y = (A, B, C, D)) : stepL m r v k = (((v.set a A).set b B).set c C).set d D := by
  simp only [Bool.and_eq_true, decide_eq_true_eq] at hok
  obtain ⟨⟨⟨⟨⟨⟨⟨⟨⟨h1, h2⟩, h3⟩, h4⟩, h5⟩, h6⟩, h7⟩, h8⟩, h9⟩, h10⟩ := hok
  unfold stepL
  rw [hc.1, hc.2.1, hc.2.2.1, hc.2.2.2, hi, hj, hx, hy, mixL_mx v a b c d x y (by omega) (by omega) (by omega) (by omega) h5 h6 h7 h8 h9 h10, hm]
  rfl

end Go.Proofs.YtkppepdniehoiaaDoor.B4
