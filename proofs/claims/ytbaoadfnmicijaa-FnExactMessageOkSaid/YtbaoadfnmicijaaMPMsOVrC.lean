/- What the specification's ReadVar answers, at every text and place. -/
import Derived.Test.YtbaoadfnmicijaaMPMsOVrB
import Derived.Deep.RegionHeld3
namespace Go.Proofs.Ytbaoadfnmicijaa
open Go.RowKit

end Go.Proofs.Ytbaoadfnmicijaa
