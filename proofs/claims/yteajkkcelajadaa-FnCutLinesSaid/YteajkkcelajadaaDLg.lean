/- A text of m bytes of one kind. -/
import Derived.Test.YteajkkcelajadaaDB
import Derived.Test.YteajkkcelajadaaKitM
namespace Go.Proofs.Yteajkkcelajadaa
open Go.RowKit

end Go.Proofs.Yteajkkcelajadaa
