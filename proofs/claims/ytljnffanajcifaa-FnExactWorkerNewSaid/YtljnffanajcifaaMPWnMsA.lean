/- The law's own marks: rows of texts that are written and held. -/
import Derived.Test.YtljnffanajcifaaMPWnMkT
import Derived.Test.YtljnffanajcifaaMPWnMfs
namespace Go.Proofs.Ytljnffanajcifaa
open Go.RowKit

end Go.Proofs.Ytljnffanajcifaa
