/- The walks of the laws Scattered, Burst, Erasures at what the reading says of their arguments. -/
import Derived.Test.YtgpdfkallgjocaaGreatDoorM13AC
import Derived.Test.YtgpdfkallgjocaaGreatDoorM13AX
import Derived.Test.YtgpdfkallgjocaaGreatDoorF13Law4
import Derived.Test.YtgpdfkallgjocaaGreatDoorF13Law6
import Derived.Test.YtgpdfkallgjocaaGreatDoorF13Law7
import Derived.Test.YtgpdfkallgjocaaGreatDoorM13AA
namespace Go.Proofs.YtgpdfkallgjocaaGreatDoor.F13
set_option maxRecDepth 100000
open Go.RowKit Mem

theorem row_scattered (D : Dev) (f : Fr) (A : Option Addr) (n cap : Nat) (zs : List Int) (w : World) (h : FitB f) (hr : IsRow .u8 w A n cap zs) : Calls Tryz.prog 7 #[f.val, .slice A n cap] w fun e w' => e = .returned (.bool true) ∧ Below w.heap.size w w' := by
  obtain ⟨l, hl⟩ := IsBy.of_row hr
  exact walk_scattered D f A n cap l w hl (fit_of h) (size_of h)
theorem row_erasures (D : Dev) (f : Fr) (a : Int) (w : World) (h : FitB f) (ha : (Lit.int .u8 a).wf = true) : Calls Tryz.prog 9 #[f.val, .int .u8 a] w fun e w' => e = .returned (.bool true) ∧ Below w.heap.size w w' := by
  have h2 : 0 ≤ a ∧ a ≤ 255 := (Lit.wf_int_iff .u8 _).1 ha
  obtain ⟨n, rfl⟩ := Int.eq_ofNat_of_zero_le h2.1
  exact walk_erasures D f n w (by omega) (fit_of h) (size_of h)
theorem row_burst (D : Dev) (f : Fr) (e0 e1 : Int) (A : Option Addr) (n cap : Nat) (zs : List Int) (w : World) (h : FitB f) (h0 : 0 ≤ e0 ∧ e0 ≤ 65535) (h1 : 0 ≤ e1 ∧ e1 ≤ 65535) (hr : IsRow .u8 w A n cap zs) : Calls Tryz.prog 8 #[f.val, .agg #[.int .u16 e0, .int .u16 e1], .slice A n cap] w fun e w' => e = .returned (.bool true) ∧ Below w.heap.size w w' := by
  obtain ⟨l, hl⟩ := IsBy.of_row hr
  obtain ⟨b0, rfl⟩ := Int.eq_ofNat_of_zero_le h0.1
  obtain ⟨b1, rfl⟩ := Int.eq_ofNat_of_zero_le h1.1
  exact walk_burst D f b0 b1 A n cap l w (by omega) (by omega) hl (fit_of h) (size_of h)
end Go.Proofs.YtgpdfkallgjocaaGreatDoor.F13
