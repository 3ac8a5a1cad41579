/- A store in memory: how great it is, the law's own copy of it, two of the same, what is handed in. -/
import Derived.Test.YtbaoadfnmicijaaMPMsOStV
import Derived.Test.YtbaoadfnmicijaaMPMsOStC
namespace Go.Proofs.Ytbaoadfnmicijaa
open Go.RowKit

end Go.Proofs.Ytbaoadfnmicijaa
