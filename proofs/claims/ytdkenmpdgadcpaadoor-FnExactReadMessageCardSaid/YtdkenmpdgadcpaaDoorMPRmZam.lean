/- The specification's reader of a pattern: a set, and small laws on what a part leaves. The specification's reader of a pattern: a thing. -/
import Derived.Test.YtdkenmpdgadcpaaDoorMPRmZal
import Derived.Test.YtdkenmpdgadcpaaDoorMPRmZaa
namespace Go.Proofs.YtdkenmpdgadcpaaDoor
section PartRdF
open Go.RowKit

end PartRdF
section PartRdG
open Go.RowKit

end PartRdG
end Go.Proofs.YtdkenmpdgadcpaaDoor
