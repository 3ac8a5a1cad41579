/- The specification's reader of a pattern: one piece more. -/
import Derived.Test.YtljnffanajcifaaMPWfRdA
import Derived.Test.YtljnffanajcifaaMPWfPtB
import Derived.Test.YtljnffanajcifaaMPWfFrm
import Derived.Deep.RegionLaw
import Derived.Deep.AppendLies
namespace Go.Proofs.Ytljnffanajcifaa
open Go.RowKit

end Go.Proofs.Ytljnffanajcifaa
