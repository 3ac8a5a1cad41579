/- A message in the law: its size, its copy, how it is opened; the law on MessageOk, from what the program answers. -/
import Derived.Test.YtljnffanajcifaaMPWfMsP
import Derived.Test.YtljnffanajcifaaMPWfCoS
namespace Go.Proofs.Ytljnffanajcifaa
open Go.RowKit

end Go.Proofs.Ytljnffanajcifaa
