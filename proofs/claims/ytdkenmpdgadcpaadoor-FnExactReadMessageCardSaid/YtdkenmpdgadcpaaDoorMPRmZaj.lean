/- The specification of ProgramOk: names. What is a number: the program's IsNum and the specification's, at every text. -/
import Derived.Test.YtdkenmpdgadcpaaDoorMPRmZai
import Derived.Test.YtdkenmpdgadcpaaDoorProg
import Derived.Test.YtdkenmpdgadcpaaDoorMPRmZaf
import Derived.WalkKit
import Derived.WalkSpells
import Derived.WalkLawsBesides
import Derived.Handy
import Derived.Lib.Strings
namespace Go.Proofs.YtdkenmpdgadcpaaDoor
section PartPgB
open Go.RowKit

end PartPgB
section PartVNum
open Go.RowKit

end PartVNum
end Go.Proofs.YtdkenmpdgadcpaaDoor
