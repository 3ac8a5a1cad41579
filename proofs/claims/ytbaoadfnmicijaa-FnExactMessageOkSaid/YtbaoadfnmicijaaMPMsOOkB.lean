/- When a store is right: how the program compares keys, and whether a list ascends. -/
import Derived.Test.YtbaoadfnmicijaaMPMsOZao
import Derived.Test.YtbaoadfnmicijaaMPMsOZap
import Derived.Deep.RegionWith
namespace Go.Proofs.Ytbaoadfnmicijaa
open Go.RowKit

end Go.Proofs.Ytbaoadfnmicijaa
