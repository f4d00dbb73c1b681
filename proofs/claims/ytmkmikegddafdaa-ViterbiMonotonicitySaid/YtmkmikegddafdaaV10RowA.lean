/- What a row of layer 10 imports: the laws' walks, and the landed package's contracts. -/
import Derived.Test.YtmkmikegddafdaaV10Law1
import Derived.Test.YtmkmikegddafdaaV10Law2
import Derived.Test.YtmkmikegddafdaaV10Law3
import Derived.Test.YtmkmikegddafdaaV10Own5
