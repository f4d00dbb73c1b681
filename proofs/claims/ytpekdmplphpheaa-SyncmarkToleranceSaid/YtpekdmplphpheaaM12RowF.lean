/- What a row of layer 12 imports: the laws' walks, and the landed package's contracts. -/
import Derived.Test.YtpekdmplphpheaaM12Law6
import Derived.Test.YtpekdmplphpheaaM12Own
