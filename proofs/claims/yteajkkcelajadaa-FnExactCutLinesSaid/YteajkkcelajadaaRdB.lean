/- The specification's reader of a pattern: one piece more. -/
import Derived.Test.YteajkkcelajadaaRdA
import Derived.Test.YteajkkcelajadaaPtB
import Derived.Test.YteajkkcelajadaaFrm
import Derived.Deep.RegionLaw
import Derived.Deep.AppendLies
namespace Go.Proofs.Yteajkkcelajadaa
open Go.RowKit

end Go.Proofs.Yteajkkcelajadaa
