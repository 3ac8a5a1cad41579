/- When a store is right: the specification. -/
import Derived.Test.YtbaoadfnmicijaaMPMsOOkC
import Derived.Test.YtbaoadfnmicijaaMPMsOCdA
namespace Go.Proofs.Ytbaoadfnmicijaa
open Go.RowKit

end Go.Proofs.Ytbaoadfnmicijaa
