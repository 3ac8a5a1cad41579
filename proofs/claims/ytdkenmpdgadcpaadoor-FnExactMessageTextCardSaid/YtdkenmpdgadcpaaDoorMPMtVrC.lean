/- What the specification's ReadVar answers, at every text and place. -/
import Derived.Test.YtdkenmpdgadcpaaDoorMPMtVrB
import Derived.Deep.RegionHeld3
namespace Go.Proofs.YtdkenmpdgadcpaaDoor
open Go.RowKit

end Go.Proofs.YtdkenmpdgadcpaaDoor
