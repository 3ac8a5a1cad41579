/- When a store is right: whether a list ascends. -/
import Derived.Test.YtbaoadfnmicijaaMPMsOOkB
import Derived.Test.YtbaoadfnmicijaaMPMsOEqB
namespace Go.Proofs.Ytbaoadfnmicijaa
open Go.RowKit


end Go.Proofs.Ytbaoadfnmicijaa
