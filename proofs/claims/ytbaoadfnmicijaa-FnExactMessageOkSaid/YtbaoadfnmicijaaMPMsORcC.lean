/- What is read of the bytes of code: the program's reader, a byte. -/
import Derived.Test.YtbaoadfnmicijaaMPMsORcB
namespace Go.Proofs.Ytbaoadfnmicijaa
open Go.RowKit

end Go.Proofs.Ytbaoadfnmicijaa
