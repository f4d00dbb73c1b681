/- What the laws of layer 5 take of the package's own functions: their contracts, as one structure; and the chapter's examples. -/
import Derived.Test.YtffnjnomckipbaaG5Ref3
import Derived.DataShut
import Derived.Deep.RegionWith
namespace Go.Proofs.Ytffnjnomckipbaa.G5
open Go.RowKit Mem
set_option linter.unusedVariables false

/-- The contracts of the package's functions. -/
structure Dev : Prop where
  add : ∀ (a b : R) (w : World), Calls Try.prog 16 #[bv a, bv b] w fun e w' => e = .returned (bv (a ^^^ b)) ∧ w = w'
  mul : ∀ (a b : R) (w : World), Calls Try.prog 18 #[bv a, bv b] w fun e w' => e = .returned (bv (tms a b)) ∧ w = w'
  inv : ∀ (a : R) (w : World), Calls Try.prog 12 #[bv a] w fun e w' => e = .returned (.tuple #[bv (iv a), .bool (!(a == 0#8))]) ∧ Below w.heap.size w w'
  div : ∀ (a b : R) (w : World), Calls Try.prog 14 #[bv a, bv b] w fun e w' => e = .returned (.tuple #[bv (dv a b), .bool (!(b == 0#8))]) ∧ Below w.heap.size w w'
  exp : ∀ (n : Int) (w : World), -9223372036854775808 ≤ n → n ≤ 9223372036854775807 → Calls Try.prog 24 #[.int .i64 n] w fun e w' => e = .returned (bv (ex n)) ∧ Below w.heap.size w w'
  log : ∀ (a : R) (w : World), Calls Try.prog 20 #[bv a] w fun e w' => e = .returned (.tuple #[.int .i64 (lo a : Int), .bool (!(a == 0#8))]) ∧ w = w'
  pow : ∀ (a : R) (n : Int) (w : World), -9223372036854775808 ≤ n → n ≤ 9223372036854775807 → Calls Try.prog 22 #[bv a, .int .i64 n] w fun e w' => e = .returned (.tuple #[bv (po a n), .bool (pk a n)]) ∧ Below w.heap.size w w'

theorem rinv_one (a : R) (w : World) : Calls Try.prog 13 #[bv a] w fun e w' => e = .returned (.tuple #[bv (iv a), .bool (!(a == 0#8))]) ∧ w = w' := rinv_any a w
theorem rdiv_one (a b : R) (w : World) : Calls Try.prog 15 #[bv a, bv b] w fun e w' => e = .returned (.tuple #[bv (dv a b), .bool (!(b == 0#8))]) ∧ w = w' := rdiv_any a b w
theorem rlog_one (a : R) (w : World) : Calls Try.prog 21 #[bv a] w fun e w' => e = .returned (.tuple #[.int .i64 (lo a : Int), .bool (!(a == 0#8))]) ∧ w = w' := rlog_any a w

theorem u8_el {a : Int} (h : (Lit.int .u8 a).wf = true) : ∃ x : R, a = (x.toNat : Int) := by
  obtain ⟨h1, h2⟩ : 0 ≤ a ∧ a ≤ 255 := (Lit.wf_int_iff .u8 _).1 h
  refine ⟨BitVec.ofNat 8 a.toNat, ?_⟩
  rw [BitVec.toNat_ofNat]
  omega
theorem i64_in {a : Int} (h : (Lit.int .i64 a).wf = true) : -9223372036854775808 ≤ a ∧ a ≤ 9223372036854775807 := (Lit.wf_int_iff .i64 _).1 h
theorem i32_in {a : Int} (h : (Lit.int .i32 a).wf = true) : -2147483648 ≤ a ∧ a ≤ 2147483647 := (Lit.wf_int_iff .i32 _).1 h

set_option maxHeartbeats 1000000 in
theorem alive_any (D : Dev) (w : World) : Calls Try.prog 11 #[] w fun e w' => e = .returned (.bool true) ∧ Below w.heap.size w w' := by
  have c1 := D.inv 2#8 w
  rw [show bv 2#8 = .int .u8 2 from rfl, show iv 2#8 = 142#8 by decide +kernel, show bv 142#8 = .int .u8 142 from rfl, show (!((2#8 : R) == 0#8)) = true by decide] at c1
  have c2 := fun W => D.log 3#8 W
  rw [show bv 3#8 = .int .u8 3 from rfl, show ((lo 3#8 : Nat) : Int) = 25 by decide +kernel, show (!((3#8 : R) == 0#8)) = true by decide] at c2
  have c3 := fun W => D.mul 2#8 128#8 W
  rw [show bv 2#8 = .int .u8 2 from rfl, show bv 128#8 = .int .u8 128 from rfl, show tms 2#8 128#8 = 29#8 by decide +kernel, show bv 29#8 = .int .u8 29 from rfl] at c3
  have c4 := fun W => D.exp 8 W (by decide) (by decide)
  rw [show ex 8 = 29#8 by decide +kernel, show bv 29#8 = .int .u8 29 from rfl] at c4
  have c1 := Lib.hid c1
  have c2 := Lib.hid c2
  have c3 := Lib.hid c3
  have c4 := Lib.hid c4
  go_enter Try.func11, Try.ntmps11
  go_wp2_with fail
  refine c1.out.mono ?_
  rintro e w1 ⟨rfl, hb1⟩
  go_wp2_with fail
  refine (c2.out _).mono ?_
  rintro e w2 ⟨rfl, rfl⟩
  go_wp2_with fail
  refine (c3.out _).mono ?_
  rintro e w2 ⟨rfl, rfl⟩
  go_wp2_with fail
  refine (c4.out _).mono ?_
  rintro e w3 ⟨rfl, hb3⟩
  go_wp2
  go_ret
  exact ⟨rfl, chain hb1 hb3⟩
end Go.Proofs.Ytffnjnomckipbaa.G5
