/- The specification of CodeOk. The contract of the library's Clone, laid at this program: the same bytes, in memory of its own. -/
import Derived.Test.YtbaoadfnmicijaaMZao
import Derived.Shelf.LaysM
import Derived.Shelf.Strconv.Clone
import Derived.Test.YtbaoadfnmicijaaProg
import Derived.WalkKit
namespace Go.Proofs.Ytbaoadfnmicijaa
section PartCdH
open Go.RowKit

namespace Cd
end Cd

end PartCdH
section PartShelfC
open Go.Shelf
end PartShelfC
end Go.Proofs.Ytbaoadfnmicijaa
