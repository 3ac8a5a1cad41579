/- The specification of ProgramOk: a node's text. -/
import Derived.Test.YtdkenmpdgadcpaaDoorMPRmZak
import Derived.Test.YtdkenmpdgadcpaaDoorMPRmRdK
namespace Go.Proofs.YtdkenmpdgadcpaaDoor
open Go.RowKit

end Go.Proofs.YtdkenmpdgadcpaaDoor
