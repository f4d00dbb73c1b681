/- What a row of layer 10 imports: the laws' walks, arrays as arguments, and the landed package's contracts. -/
import Derived.Test.YtmkmikegddafdaaV10Law6
import Derived.Test.YtmkmikegddafdaaArr
import Derived.Test.YtmkmikegddafdaaV10Own5
