/- What a row of layer 9 imports: a law's walk, and the landed package's contracts. -/
import Derived.Test.YthbhjbbgghpiaaaC9Law7
import Derived.Test.YthbhjbbgghpiaaaC9Own
