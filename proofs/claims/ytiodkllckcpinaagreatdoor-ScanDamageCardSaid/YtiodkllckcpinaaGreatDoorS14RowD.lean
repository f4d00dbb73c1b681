/- The walk of the law ScanDamage at what the reading says. -/
import Derived.Test.YtiodkllckcpinaaGreatDoorS14Law6
import Derived.Test.YtiodkllckcpinaaGreatDoorM14AU
set_option linter.unusedVariables false
set_option linter.unusedSimpArgs false
set_option maxRecDepth 100000
namespace Go.Proofs.YtiodkllckcpinaaGreatDoor
namespace S14
open Go.RowKit Mem F13

theorem row_damage (d : Dg) (w : World) (h : DgB d) : Calls Tryz.prog 7 #[d.val] w fun e w' => e = .returned (.bool true) ∧ Below w.heap.size w w' := by
 obtain ⟨f, m0, m1, a, ln, y⟩ := d
 have h0 := (Lit.wf_int_iff .u8 _).1 h.m0
 have h1 := (Lit.wf_int_iff .u8 _).1 h.m1
 have h2 := (Lit.wf_int_iff .u16 _).1 h.at_
 have h3 := (Lit.wf_int_iff .u16 _).1 h.len
 have h4 := (Lit.wf_int_iff .u8 _).1 h.by_
 dsimp only at h0 h1 h2 h3 h4
 obtain ⟨k0, rfl⟩ := Int.eq_ofNat_of_zero_le h0.1
 obtain ⟨k1, rfl⟩ := Int.eq_ofNat_of_zero_le h1.1
 obtain ⟨k2, rfl⟩ := Int.eq_ofNat_of_zero_le h2.1
 obtain ⟨k3, rfl⟩ := Int.eq_ofNat_of_zero_le h3.1
 obtain ⟨k4, rfl⟩ := Int.eq_ofNat_of_zero_le h4.1
 have e0 : (k0 : Int) ≤ 255 := h0.2
 have e1 : (k1 : Int) ≤ 255 := h1.2
 have e2 : (k2 : Int) ≤ 65535 := h2.2
 have e3 : (k3 : Int) ≤ 65535 := h3.2
 have e4 : (k4 : Int) ≤ 255 := h4.2
 exact walk_damage f k0 k1 k2 k3 k4 w h.f (by omega) (by omega) (by omega) (by omega) (by omega)
end S14
end Go.Proofs.YtiodkllckcpinaaGreatDoor
