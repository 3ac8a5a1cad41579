/- The specification of ProgramOk: how many kids; expressions; a node's text. Is it a sign that stands for something else, in a pattern? -/
import Derived.Test.YtbaoadfnmicijaaMZah
import Derived.Test.YtbaoadfnmicijaaMZaf
import Derived.Test.YtbaoadfnmicijaaMZae
namespace Go.Proofs.Ytbaoadfnmicijaa
section PartPgC
open Go.RowKit

end PartPgC
section PartRdC
open Go.RowKit

end PartRdC
end Go.Proofs.Ytbaoadfnmicijaa
