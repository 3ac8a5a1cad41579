/- The specification's reader of a pattern: one thing behind the other. -/
import Derived.Test.YtmofljfffcnlbaaMPSxZap
namespace Go.Proofs.Ytmofljfffcnlbaa
open Go.RowKit

end Go.Proofs.Ytmofljfffcnlbaa
