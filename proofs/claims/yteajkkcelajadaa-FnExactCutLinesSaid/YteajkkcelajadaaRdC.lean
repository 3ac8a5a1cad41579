/- Is it a sign that stands for something else, in a pattern? -/
import Derived.Test.YteajkkcelajadaaRdA
namespace Go.Proofs.Yteajkkcelajadaa
open Go.RowKit

end Go.Proofs.Yteajkkcelajadaa
