/- The specification of Tokens: letters, figures, what stands between two marks. The specification of ProgramOk: names, plain texts. -/
import Derived.Test.YtdkenmpdgadcpaaDoorMPMtZae
import Derived.Test.YtdkenmpdgadcpaaDoorMPMtZah
import Derived.Test.YtdkenmpdgadcpaaDoorMPMtZag
namespace Go.Proofs.YtdkenmpdgadcpaaDoor
section PartTkA
open Go.RowKit

end PartTkA
section PartPgA
open Go.RowKit

end PartPgA
end Go.Proofs.YtdkenmpdgadcpaaDoor
