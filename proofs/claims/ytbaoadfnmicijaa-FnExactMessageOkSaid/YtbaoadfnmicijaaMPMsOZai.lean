/- The specification's reader of a pattern: a thing. The specification's reader of a pattern: a thing with its signs behind it. -/
import Derived.Test.YtbaoadfnmicijaaMPMsOZah
namespace Go.Proofs.Ytbaoadfnmicijaa
section PartRdG
open Go.RowKit

end PartRdG
section PartRdH
open Go.RowKit

end PartRdH
end Go.Proofs.Ytbaoadfnmicijaa
