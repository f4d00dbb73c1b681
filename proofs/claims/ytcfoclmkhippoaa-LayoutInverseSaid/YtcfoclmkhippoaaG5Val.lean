/- An element of the field as a value; what results and tests look like. -/
import Derived.DataShut
import Derived.Test.YtcfoclmkhippoaaRows
import Derived.Test.YtcfoclmkhippoaaMem
import Derived.Test.YtcfoclmkhippoaaG5Bits
import Derived.BigQuiet
import Derived.Deep.QuietTactic
import Derived.WalkSpells
import Derived.WalkLawsBesides
import Derived.Laws.BitsAllLaws
import Derived.Lib.Hide
namespace Go.Proofs.Ytcfoclmkhippoaa.G5
set_option maxRecDepth 100000
open Go.RowKit Mem
set_option linter.unusedVariables false

theorem wrap_small {n : Int} (h1 : 0 ≤ n) (h2 : n < 65536) : wrap64 n = n := by
  unfold wrap64
  omega
/-- An element as a value. -/
abbrev bv (x : R) : Value := .int .u8 (x.toNat : Int)
theorem bxr (x y : R) : bits .xor .u8 (x.toNat : Int) (y.toNat : Int) = ((x ^^^ y).toNat : Int) := by
  rw [BitVec.toNat_xor]
  exact u8_xor_nat _ _ x.isLt y.isLt
theorem ret_kb {k : IntKind} {x x' : Int} {y y' : Bool} (h : x = x') (h' : y = y') : Ending.returned (.tuple #[.int k x, .bool y]) = .returned (.tuple #[.int k x', .bool y']) := by rw [h, h']
theorem bv_eq1 (x y : R) : ((x.toNat : Int) == (y.toNat : Int)) = (x == y) := by
  rcases hb : x == y with _ | _
  · rw [beq_eq_false_iff_ne] at hb ⊢
    exact fun e => hb (BitVec.eq_of_toNat_eq (by omega))
  · rw [beq_iff_eq] at hb ⊢
    rw [hb]

theorem u8_elem {a : Int} (h : (Lit.int .u8 a).wf = true) : ∃ x : R, a = (x.toNat : Int) := by
  obtain ⟨h1, h2⟩ : 0 ≤ a ∧ a ≤ 255 := (Lit.wf_int_iff .u8 _).1 h
  refine ⟨BitVec.ofNat 8 a.toNat, ?_⟩
  rw [BitVec.toNat_ofNat]
  omega
end Go.Proofs.Ytcfoclmkhippoaa.G5
