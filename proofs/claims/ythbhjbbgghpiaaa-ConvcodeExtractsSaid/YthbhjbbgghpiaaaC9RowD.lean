/- What a row of layer 9 imports: two laws' walks, and the landed package's contracts. -/
import Derived.Test.YthbhjbbgghpiaaaC9Law6
import Derived.Test.YthbhjbbgghpiaaaC9Own
