/- The contract of the library's Clone, laid at this program: the same bytes, in memory of its own. -/
import Derived.Shelf.LaysM
import Derived.Shelf.Strconv.Clone
import Derived.Test.YtljnffanajcifaaProg
import Derived.WalkKit
namespace Go.Proofs.Ytljnffanajcifaa
open Go.Shelf
end Go.Proofs.Ytljnffanajcifaa
