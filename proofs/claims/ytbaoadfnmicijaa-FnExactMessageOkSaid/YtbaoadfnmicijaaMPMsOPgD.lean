/- The specification of ProgramOk: a node's text. -/
import Derived.Test.YtbaoadfnmicijaaMPMsOZag
import Derived.Test.YtbaoadfnmicijaaMPMsORdK
namespace Go.Proofs.Ytbaoadfnmicijaa
open Go.RowKit

end Go.Proofs.Ytbaoadfnmicijaa
