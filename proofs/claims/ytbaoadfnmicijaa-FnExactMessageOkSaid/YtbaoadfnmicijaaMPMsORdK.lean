/- What ReadPattern of the specification answers, at every text. -/
import Derived.Test.YtbaoadfnmicijaaMPMsOZaj
import Derived.Laws.ResultCell
import Derived.Laws.Rows
namespace Go.Proofs.Ytbaoadfnmicijaa
open Go.RowKit

end Go.Proofs.Ytbaoadfnmicijaa
