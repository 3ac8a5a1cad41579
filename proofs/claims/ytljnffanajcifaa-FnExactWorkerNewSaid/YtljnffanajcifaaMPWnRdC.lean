/- Is it a sign that stands for something else, in a pattern? -/
import Derived.Test.YtljnffanajcifaaMPWnRdA
namespace Go.Proofs.Ytljnffanajcifaa
open Go.RowKit

end Go.Proofs.Ytljnffanajcifaa
