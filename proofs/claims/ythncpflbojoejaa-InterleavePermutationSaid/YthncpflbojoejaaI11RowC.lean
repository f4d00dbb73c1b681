/- What a row of layer 11 imports: the laws' walks, and the landed package's contracts. -/
import Derived.Test.YthncpflbojoejaaI11Law4
import Derived.Test.YthncpflbojoejaaI11Law5
import Derived.Test.YthncpflbojoejaaI11Own
