/- What a row of layer 10 imports: the two laws over the reference, and the landed package's contracts. -/
import Derived.Test.YtmkmikegddafdaaV10Law7
import Derived.Test.YtmkmikegddafdaaV10Own
