/- The law's own marks: the text of a mark. -/
import Derived.Test.YtbaoadfnmicijaaMPMsOZah
import Derived.Test.YtbaoadfnmicijaaMPMsOZan
namespace Go.Proofs.Ytbaoadfnmicijaa
open Go.RowKit

/-- The mark of k. -/
def mk (k : Nat) : List UInt8 := 109 :: Pl.dg 20 k

end Go.Proofs.Ytbaoadfnmicijaa
