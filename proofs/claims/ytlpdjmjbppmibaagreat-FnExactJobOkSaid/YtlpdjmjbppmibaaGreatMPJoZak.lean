/- The specification of ProgramOk: names. What is a number: the program's IsNum and the specification's, at every text. The specification of ProgramOk: how many kids; expressions; a node's text. -/
import Derived.Test.YtlpdjmjbppmibaaGreatMPJoZaj
import Derived.Test.YtlpdjmjbppmibaaGreatProg
import Derived.Test.YtlpdjmjbppmibaaGreatMPJoZai
import Derived.WalkKit
import Derived.WalkSpells
import Derived.WalkLawsBesides
import Derived.Handy
import Derived.Lib.Strings
import Derived.Test.YtlpdjmjbppmibaaGreatMPJoZac
namespace Go.Proofs.YtlpdjmjbppmibaaGreat
section PartPgB
open Go.RowKit

end PartPgB
section PartVNum
open Go.RowKit

end PartVNum
section PartPgC
open Go.RowKit

end PartPgC
end Go.Proofs.YtlpdjmjbppmibaaGreat
