/- The specification's reader of a pattern: one piece more. -/
import Derived.Test.YtljnffanajcifaaMPWnRdA
import Derived.Test.YtljnffanajcifaaMPWnPtB
import Derived.Test.YtljnffanajcifaaMPWnFrm
import Derived.Deep.RegionLaw
import Derived.Deep.AppendLies
namespace Go.Proofs.Ytljnffanajcifaa
open Go.RowKit

end Go.Proofs.Ytljnffanajcifaa
