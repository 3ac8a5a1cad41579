/- What spec.l01Var and both VarText answer, at every number. -/
import Derived.Test.YtljnffanajcifaaMPWnKit
namespace Go.Proofs.Ytljnffanajcifaa
open Go.RowKit

end Go.Proofs.Ytljnffanajcifaa
