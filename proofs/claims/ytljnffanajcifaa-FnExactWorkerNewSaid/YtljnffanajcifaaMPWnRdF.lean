/- The specification's reader of a pattern: a set, and small laws on what a part leaves. -/
import Derived.Test.YtljnffanajcifaaMPWnRdE
import Derived.Test.YtljnffanajcifaaMPWnKit
namespace Go.Proofs.Ytljnffanajcifaa
open Go.RowKit

end Go.Proofs.Ytljnffanajcifaa
