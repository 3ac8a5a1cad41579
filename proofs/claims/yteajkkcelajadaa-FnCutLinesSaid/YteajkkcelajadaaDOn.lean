/- Once in so many draws: some Boolean. -/
import Derived.Test.YteajkkcelajadaaDB
namespace Go.Proofs.Yteajkkcelajadaa
open Go.RowKit

end Go.Proofs.Yteajkkcelajadaa
