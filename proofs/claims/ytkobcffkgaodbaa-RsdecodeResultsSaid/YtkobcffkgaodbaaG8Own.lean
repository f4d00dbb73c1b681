/- The landed package's contracts, together. -/
import Derived.Test.YtkobcffkgaodbaaG8Own7
import Derived.Test.YtkobcffkgaodbaaG8Dev
namespace Go.Proofs.Ytkobcffkgaodbaa.G8
open Go.Proofs.Ytkobcffkgaodbaa.G5
open Go.Proofs.Ytkobcffkgaodbaa.G7
open Go.RowKit Mem

theorem dev : Dev where
  decode h hl hs h1 h2 := dec_own h hl hs h1 h2
  locate a b w ha hb := loc_own a b w ha hb
  radius p e s w _ _ _ := (rad_own p e s w).mono fun _ _ ⟨a, b⟩ => ⟨a, by rw [← b]; exact Below.refl _ _⟩
end Go.Proofs.Ytkobcffkgaodbaa.G8
