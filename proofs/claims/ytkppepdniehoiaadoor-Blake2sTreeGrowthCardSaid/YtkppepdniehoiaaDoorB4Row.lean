/- From what a row lists to what the walks take of the package's two variables. -/
import Derived.Test.YtkppepdniehoiaaDoorB4Own
import Derived.Test.YtkppepdniehoiaaDoorRows
import Derived.Test.YtkppepdniehoiaaDoorLift
import Derived.Lib.LaidTab
import Derived.LaidLaws
import Derived.Stop.LaidErr
namespace Go.Proofs.YtkppepdniehoiaaDoor.B4
open Go.RowKit Mem
set_option linter.unusedVariables false

theorem join_pieces (m : Nat) : ∀ (rows : List (List Value)) (cs : List Value), cs.length = rows.length * m → (∀ i (h : i < rows.length), (cs.drop (i * m)).take m = rows[i]) → cs = rows.flatten
  | [], cs, hl, _ => by
    have : cs = [] := List.eq_nil_of_length_eq_zero (by simpa using hl)
    rw [this]; rfl
  | r :: rs, cs, hl, h => by
    have h0 := h 0 (by simp)
    rw [Nat.zero_mul, List.drop_zero] at h0
    have hl' : cs.length = rs.length * m + m := by rw [hl, List.length_cons, Nat.succ_mul]
    have ih := join_pieces m rs (cs.drop m) (by rw [List.length_drop]; omega) (fun i hi => by
      have := h (i + 1) (by simp; omega)
      rw [List.drop_drop, show m + i * m = (i + 1) * m by rw [Nat.succ_mul, Nat.add_comm], this]
      rfl)
    rw [List.flatten_cons, ← ih]
    have h0' : cs.take m = r := h0
    rw [← h0', List.take_append_drop]
theorem cells_of_tab2 {H : Type} {enc : TypeId × Value → H} {P : Program} {w : World} {base : Nat} {sp : Nat → Bool} {held : Bool} {fuel : Nat} {t e b : TypeId} {n m : Nat} {k : IntKind} {cs : List Value} {zss : List (List Int)} {p : List MemPlace}
    (ht : P.underlying t = some (.array n e)) (he : P.underlying e = some (.array m b)) (hb : P.underlying b = some (.int k)) (hcb : P.cellsOf b = 1) (hce : P.cellsOf e = m) (hct : P.cellsOf t = n * m)
    (h : DataW.trod enc P w base sp held fuel t cs = some (.agg (zss.map (Lib.tabData k)), p)) : cs = (zss.map fun zs => zs.map fun z => Value.int k z).flatten := by
  cases fuel with
  | zero => simp [DataW.trod] at h
  | succ fuel =>
    simp only [DataW.trod, ht, hce, hct] at h
    split at h
    · rename_i hl
      obtain ⟨xs, hm, hx⟩ := Option.map_eq_some_iff.1 h
      have hxs : xs.map (·.1) = zss.map (Lib.tabData k) := by
        have := congrArg Prod.fst hx
        simpa using this
      have hxl : xs.length = n := by simpa using Lib.mapM_length hm
      have hzl : zss.length = n := by
        have := congrArg List.length hxs
        simp at this
        omega
      refine join_pieces m _ cs (by rw [List.length_map, hzl, hl]) (fun i hi => ?_)
      rw [List.length_map] at hi
      obtain ⟨y, hy, hf⟩ := Lib.mapM_at hm i i (by simp [← hzl, hi])
      have hye : y.1 = Lib.tabData k zss[i] := by
        have h1 : (xs.map (·.1))[i]? = some y.1 := by simp [hy]
        rw [hxs] at h1
        simpa [hi] using h1.symm
      have hpc := Lib.cells_of_tab (enc := enc) (p := y.2) he hb hcb hce (by rw [← hye]; exact hf)
      rw [hpc]
      simp
    · cases h

theorem tInit : (Tryd.prog.globals[0]?).map (·.type) = some 32 := by kernel_rfl
theorem tPerm : (Tryd.prog.globals[1]?).map (·.type) = some 61 := by kernel_rfl
theorem cInit : Tryd.prog.cellsOf 32 = 8 := by kernel_rfl
theorem cPerm : Tryd.prog.cellsOf 61 = 10 * 16 := by kernel_rfl
theorem cRow : Tryd.prog.cellsOf 60 = 16 := by kernel_rfl
theorem cU32 : Tryd.prog.cellsOf 31 = 1 := by kernel_rfl
theorem cU8 : Tryd.prog.cellsOf 5 = 1 := by kernel_rfl
def initI : List Int := ivL.map fun x => (x.toNat : Int)
def permI : List (List Int) := (List.range 10).map fun r => (rowP r).map fun n : Nat => (n : Int)

theorem laid_of {W : World} (h : laidMetH Tryd.prog Rows.blake2sDigestRow.laid W) : Laid W := by
  rw [MakeChecks.laidMetH_plain _ _ _ (by kernel_rfl)] at h
  have h1 : laidMet Tryd.prog (("stele/blake2s.initial", Lib.tabData .u32 initI) :: [("stele/blake2s.permutations", Rows.laid_stele_blake2s_permutations)]) W := h
  have hi := Lib.tabIs_of_head gInit tInit Tryd.underlying32 Tryd.underlying31 cU32 cInit h1
  refine ⟨hi, ?_⟩
  have h2 : laidMet Tryd.prog (("stele/blake2s.permutations", .agg (permI.map (Lib.tabData .u8))) :: []) W := h1.tail
  obtain ⟨ps, ⟨g', t', cs, fuel, p, q, hg', ht', hvar, hd, _, _⟩, _⟩ := h2
  obtain rfl := Option.some.inj (gPerm.symm.trans hg')
  obtain rfl := Option.some.inj (tPerm.symm.trans ht')
  have hc := cells_of_tab2 Tryd.underlying61 Tryd.underlying60 Tryd.underlying5 cU8 cRow cPerm hd
  rw [hvar]
  congr 1
  apply Array.toList_inj.1
  rw [hc]
  kernel_rfl
end Go.Proofs.YtkppepdniehoiaaDoor.B4
