/- The specification's reader of a pattern: a thing with its signs behind it. -/
import Derived.Test.YtdkenmpdgadcpaaDoorMPRmZam
namespace Go.Proofs.YtdkenmpdgadcpaaDoor
open Go.RowKit

end Go.Proofs.YtdkenmpdgadcpaaDoor
