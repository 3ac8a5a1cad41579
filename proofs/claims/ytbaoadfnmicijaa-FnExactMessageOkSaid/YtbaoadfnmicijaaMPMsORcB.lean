/- What is read of the bytes of code: short texts, by both; the program's reader. -/
import Derived.Test.YtbaoadfnmicijaaMPMsORcA
import Derived.Test.YtbaoadfnmicijaaMPMsOZaf
namespace Go.Proofs.Ytbaoadfnmicijaa
open Go.RowKit

end Go.Proofs.Ytbaoadfnmicijaa
