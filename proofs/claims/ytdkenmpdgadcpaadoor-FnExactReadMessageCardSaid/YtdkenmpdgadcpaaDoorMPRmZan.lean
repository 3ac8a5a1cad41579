/- The specification's reader of a pattern: one thing behind the other. The specification's reader of a pattern: alternatives; and what ReadPattern of the specification answers, at every text. -/
import Derived.Test.YtdkenmpdgadcpaaDoorMPRmRdH
import Derived.Test.YtdkenmpdgadcpaaDoorMPRmPPb
namespace Go.Proofs.YtdkenmpdgadcpaaDoor
section PartRdI
open Go.RowKit

end PartRdI
section PartRdJ
open Go.RowKit

end PartRdJ
end Go.Proofs.YtdkenmpdgadcpaaDoor
