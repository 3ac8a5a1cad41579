/- The law's own marks: the text of a mark. -/
import Derived.Test.YtljnffanajcifaaMPWfRdF
import Derived.Test.YtljnffanajcifaaMPWfPlainF
namespace Go.Proofs.Ytljnffanajcifaa
open Go.RowKit

/-- The mark of k. -/
def mk (k : Nat) : List UInt8 := 109 :: Pl.dg 20 k

end Go.Proofs.Ytljnffanajcifaa
