/- The specification of Tokens: letters, figures, what stands between two marks. The specification of ProgramOk: names, plain texts. The specification of ProgramOk: names. -/
import Derived.Test.YtbaoadfnmicijaaMPMsOZac
import Derived.Test.YtbaoadfnmicijaaMPMsOZae
import Derived.Test.YtbaoadfnmicijaaMPMsOZad
namespace Go.Proofs.Ytbaoadfnmicijaa
section PartTkA
open Go.RowKit

end PartTkA
section PartPgA
open Go.RowKit

end PartPgA
section PartPgB
open Go.RowKit

end PartPgB
end Go.Proofs.Ytbaoadfnmicijaa
