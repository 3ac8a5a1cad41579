/- The specification's reader of a pattern: a set, and small laws on what a part leaves. -/
import Derived.Test.YtljnffanajcifaaMPWfRdE
import Derived.Test.YtljnffanajcifaaMPWfKit
namespace Go.Proofs.Ytljnffanajcifaa
open Go.RowKit

end Go.Proofs.Ytljnffanajcifaa
