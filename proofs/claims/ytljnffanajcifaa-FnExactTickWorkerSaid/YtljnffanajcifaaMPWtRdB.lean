/- The specification's reader of a pattern: one piece more. -/
import Derived.Test.YtljnffanajcifaaMPWtRdA
import Derived.Test.YtljnffanajcifaaMPWtPtB
import Derived.Test.YtljnffanajcifaaMPWtFrm
import Derived.Deep.RegionLaw
import Derived.Deep.AppendLies
namespace Go.Proofs.Ytljnffanajcifaa
open Go.RowKit

end Go.Proofs.Ytljnffanajcifaa
