/- What a row of layer 8 imports: a law's walk and the contracts of the landed package and of the reference. -/
import Derived.Test.YtkobcffkgaodbaaG8Law1
import Derived.Test.YtkobcffkgaodbaaG8Own
import Derived.Test.YtkobcffkgaodbaaG8RDec
