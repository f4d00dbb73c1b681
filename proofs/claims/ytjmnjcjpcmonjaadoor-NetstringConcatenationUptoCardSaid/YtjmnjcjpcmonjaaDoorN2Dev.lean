/- What the laws of layer 2 take of the package's own functions: their contracts, as one structure; and the laws' walks under them. -/
import Derived.Test.YtjmnjcjpcmonjaaDoorN2Laws
import Derived.Test.YtjmnjcjpcmonjaaDoorN2Lay
import Derived.DataShut
namespace Go.Proofs.YtjmnjcjpcmonjaaDoor.N2
open Go.RowKit Mem
set_option linter.unusedVariables false

def RnB (l : List UInt8) (a : Int) (w : World) (e : Ending) (w' : World) : Prop := e = .returned (.tuple #[.int .i64 (rdN l a).1, .int .i64 (rdN l a).2.1, .int .i64 (rdN l a).2.2]) ∧ Below w.heap.size w w'
def RsB (l : List UInt8) (a : Int) (w : World) (e : Ending) (w' : World) : Prop := e = .returned (.tuple #[.string ⟨(rdS l a).1.toArray⟩, .int .i64 (rdS l a).2.1, .int .i64 (rdS l a).2.2]) ∧ Below w.heap.size w w'

/-- The contracts of the package's functions. -/
structure Dev : Prop where
  number : ∀ (n : Int) (w : World), -9223372036854775808 ≤ n → n ≤ 9223372036854775807 → Laid w → Calls Tryd.prog 16 #[.int .i64 n] w fun e w' => e = .returned (.string ⟨(numL n).toArray⟩) ∧ Below w.heap.size w w'
  string : ∀ (s : ByteArray) (w : World), s.size ≤ 1000000 → Laid w → Calls Tryd.prog 14 #[.string s] w fun e w' => e = .returned (.string ⟨(strL s.data.toList).toArray⟩) ∧ Below w.heap.size w w'
  strings : ∀ (A : Option Addr) (cap : Nat) (l : List (List UInt8)) (w : World), tot l ≤ 1000000 → l.length ≤ cap → cap ≤ 9223372036854775807 → Rd w A (strVs l) → Laid w →
    Calls Tryd.prog 18 #[.slice A l.length cap] w fun e w' => e = .returned (.string ⟨(strsL l).toArray⟩) ∧ Below w.heap.size w w'
  readNumber : ∀ (s : ByteArray) (a : Int) (w : World), s.size ≤ 1000000 → -9223372036854775808 ≤ a → a ≤ 9223372036854775807 → Laid w → Calls Tryd.prog 20 #[.string s, .int .i64 a] w (RnB s.data.toList a w)
  readString : ∀ (s : ByteArray) (a : Int) (w : World), s.size ≤ 1000000 → -9223372036854775808 ≤ a → a ≤ 9223372036854775807 → Laid w → Calls Tryd.prog 22 #[.string s, .int .i64 a] w (RsB s.data.toList a w)
  readStrings : ∀ (s : ByteArray) (w : World), s.size ≤ 1000000 → Laid w → Calls Tryd.prog 24 #[.string s] w (RlPost s.data.toList w)

theorem below_self (w : World) : Below w.heap.size w w := Below.refl _ _

set_option maxHeartbeats 1000000 in
theorem awake_any (D : Dev) (w : World) (hL0 : Laid w) : Calls Tryd.prog 13 #[] w fun e w' => e = .returned (.bool true) ∧ Below w.heap.size w w' := by
  have hL := hL0
  have c1 := D.readString ⟨#[51, 58, 97, 98, 99, 44]⟩ 0 w (by decide) (by decide) (by decide) (by first | exact hL | exact hL.drewN _)
  unfold RsB at c1
  rw [show rdS (⟨#[51, 58, 97, 98, 99, 44]⟩ : ByteArray).data.toList 0 = ([97, 98, 99], 6, 0) by decide +kernel] at c1
  have c2 := fun W (hL : Laid W) => D.readNumber ⟨#[48, 55, 32]⟩ 0 W (by decide) (by decide) (by decide) hL
  unfold RnB at c2
  rw [show rdN (⟨#[48, 55, 32]⟩ : ByteArray).data.toList 0 = (0, 0, 3) by decide +kernel] at c2
  have c3 := fun W (hL : Laid W) => D.number (-12) W (by decide) (by decide) hL
  rw [show numL (-12) = [45, 49, 50, 32] by decide +kernel] at c3
  have c4 := fun W (hL : Laid W) => D.string ⟨#[97, 98, 99]⟩ W (by decide) hL
  rw [show strL (⟨#[97, 98, 99]⟩ : ByteArray).data.toList = [51, 58, 97, 98, 99, 44] by decide +kernel] at c4
  have c1 := Lib.hid c1
  have c2 := Lib.hid c2
  have c3 := Lib.hid c3
  have c4 := Lib.hid c4
  go_enter Tryd.func13, Tryd.ntmps13
  go_wp2_with fail
  refine c1.out.mono ?_
  rintro e w1 ⟨rfl, hb1⟩
  have hL := Laid.below (by exact hL) hb1
  go_wp2_with fail
  refine (c2.out _ (by first | exact hL | exact hL.drewN _)).mono ?_
  rintro e w2 ⟨rfl, hb2⟩
  have hL := Laid.below (by exact hL) hb2
  go_wp2_with fail
  refine (c3.out _ (by first | exact hL | exact hL.drewN _)).mono ?_
  rintro e w3 ⟨rfl, hb3⟩
  have hL := Laid.below (by exact hL) hb3
  go_wp2_with fail
  refine (c4.out _ (by first | exact hL | exact hL.drewN _)).mono ?_
  rintro e w4 ⟨rfl, hb4⟩
  have hL := Laid.below (by exact hL) hb4
  go_wp2
  go_ret
  exact ⟨rfl, chain (chain (chain hb1 hb2) hb3) hb4⟩
end Go.Proofs.YtjmnjcjpcmonjaaDoor.N2
