/- The specification's reader of a pattern: a thing with its signs behind it. -/
import Derived.Test.YtbaoadfnmicijaaMPRsZaf
namespace Go.Proofs.Ytbaoadfnmicijaa
open Go.RowKit

end Go.Proofs.Ytbaoadfnmicijaa
