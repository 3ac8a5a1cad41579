/- Lists of one message at most: their marks, and two of the same. -/
import Derived.Test.YtljnffanajcifaaMPWfWkC
import Derived.Test.YtljnffanajcifaaMPWfMsA
namespace Go.Proofs.Ytljnffanajcifaa
open Go.RowKit

end Go.Proofs.Ytljnffanajcifaa
