/- The specification's reader of a pattern: a thing. -/
import Derived.Test.YtmofljfffcnlbaaMPSxZag
namespace Go.Proofs.Ytmofljfffcnlbaa
open Go.RowKit

end Go.Proofs.Ytmofljfffcnlbaa
