/- What a row of layer 8 imports: a law's walk and the landed package's contracts. -/
import Derived.Test.YtkobcffkgaodbaaG8Law5
import Derived.Test.YtkobcffkgaodbaaG8Own
