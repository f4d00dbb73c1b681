/- The laws' walks at what the reading says of a frame. -/
import Derived.Test.YtgpdfkallgjocaaGreatDoorM13AC
import Derived.Test.YtgpdfkallgjocaaGreatDoorM13AX
import Derived.Test.YtgpdfkallgjocaaGreatDoorF13Law1
import Derived.Test.YtgpdfkallgjocaaGreatDoorF13Law2
import Derived.Test.YtgpdfkallgjocaaGreatDoorF13Law3
namespace Go.Proofs.YtgpdfkallgjocaaGreatDoor.F13
open Go.RowKit Mem

theorem row_roundtrip (D : Dev) (f : Fr) (w : World) (h : FitB f) : Calls Tryz.prog 6 #[f.val] w fun e w' => e = .returned (.bool true) ∧ Below w.heap.size w w' := walk_roundtrip D f w (fit_of h) (size_of h)
theorem row_encodes (D : Dev) (f : Fr) (w : World) (h : FitB f) : Calls Tryz.prog 4 #[f.val] w fun e w' => e = .returned (.bool true) ∧ Below w.heap.size w w' := walk_encodes D f w (fit_of h) (size_of h)
theorem row_messages (D : Dev) (f : Fr) (b : ByteArray) (w : World) (h : FitB f) (hb : b.size ≤ 140737488351232) : Calls Tryz.prog 3 #[f.val, .string b] w fun e w' => e = .returned (.bool true) ∧ Below w.heap.size w w' := walk_messages D f b w (fit_of h) (size_of h) hb
end Go.Proofs.YtgpdfkallgjocaaGreatDoor.F13
