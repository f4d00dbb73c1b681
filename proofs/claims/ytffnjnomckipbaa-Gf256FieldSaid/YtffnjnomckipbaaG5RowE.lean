/- What a row of layer 5 imports: the package's contracts, and a law's walk. -/
import Derived.Test.YtffnjnomckipbaaG5Own
import Derived.Test.YtffnjnomckipbaaG5Law5
