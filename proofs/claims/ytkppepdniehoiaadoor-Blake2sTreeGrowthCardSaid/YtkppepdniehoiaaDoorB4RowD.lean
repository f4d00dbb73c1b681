/- What a row of this stage imports. -/
import Derived.Test.YtkppepdniehoiaaDoorB4Row
import Derived.Test.YtkppepdniehoiaaDoorB4Words
import Derived.Test.YtkppepdniehoiaaDoorB4Law7
