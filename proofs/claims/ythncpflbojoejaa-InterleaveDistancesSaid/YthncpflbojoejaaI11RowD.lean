/- What a row of layer 11 imports: the laws' walks, and the landed package's contracts. -/
import Derived.Test.YthncpflbojoejaaI11Law6
import Derived.Test.YthncpflbojoejaaI11Own
