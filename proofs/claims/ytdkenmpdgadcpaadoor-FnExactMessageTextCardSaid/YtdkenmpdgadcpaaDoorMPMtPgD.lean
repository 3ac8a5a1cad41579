/- The specification of ProgramOk: a node's text. -/
import Derived.Test.YtdkenmpdgadcpaaDoorMPMtZak
import Derived.Test.YtdkenmpdgadcpaaDoorMPMtRdK
namespace Go.Proofs.YtdkenmpdgadcpaaDoor
open Go.RowKit

end Go.Proofs.YtdkenmpdgadcpaaDoor
