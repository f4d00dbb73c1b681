/- What a row of layer 8 imports: a law's walk and the landed package's contracts. -/
import Derived.Test.YtkobcffkgaodbaaG8Law2
import Derived.Test.YtkobcffkgaodbaaG8Own
