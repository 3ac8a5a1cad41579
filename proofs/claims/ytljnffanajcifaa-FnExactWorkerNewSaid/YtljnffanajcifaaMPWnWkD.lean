/- Lists of one message at most: their marks, and two of the same. -/
import Derived.Test.YtljnffanajcifaaMPWnWkC
import Derived.Test.YtljnffanajcifaaMPWnMsA
namespace Go.Proofs.Ytljnffanajcifaa
open Go.RowKit

end Go.Proofs.Ytljnffanajcifaa
