/- What a row of layer 6 imports: the package's contracts, and a law's walk. -/
import Derived.Test.YtdinngcfjjajeaaG6Own
import Derived.Test.YtdinngcfjjajeaaG6Law1
