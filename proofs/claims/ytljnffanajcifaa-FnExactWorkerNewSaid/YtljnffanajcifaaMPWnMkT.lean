/- The law's own marks: the text of a mark. -/
import Derived.Test.YtljnffanajcifaaMPWnRdF
import Derived.Test.YtljnffanajcifaaMPWnPlainF
namespace Go.Proofs.Ytljnffanajcifaa
open Go.RowKit

end Go.Proofs.Ytljnffanajcifaa
