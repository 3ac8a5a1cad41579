/- When a store is right: the specification's StoreOk. -/
import Derived.Test.YtbaoadfnmicijaaMPMsOOkA
namespace Go.Proofs.Ytbaoadfnmicijaa
open Go.RowKit

end Go.Proofs.Ytbaoadfnmicijaa
