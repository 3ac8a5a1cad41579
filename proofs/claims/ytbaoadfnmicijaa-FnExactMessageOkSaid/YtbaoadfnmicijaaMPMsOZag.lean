/- What is a number: the program's IsNum and the specification's, at every text. The specification of ProgramOk: how many kids; expressions; a node's text. Is it a sign that stands for something else, in a pattern? -/
import Derived.Test.YtbaoadfnmicijaaProg
import Derived.Test.YtbaoadfnmicijaaMPMsOZad
import Derived.WalkKit
import Derived.WalkSpells
import Derived.WalkLawsBesides
import Derived.Handy
import Derived.Lib.Strings
import Derived.Test.YtbaoadfnmicijaaMPMsOZaf
import Derived.Test.YtbaoadfnmicijaaMPMsOZae
namespace Go.Proofs.Ytbaoadfnmicijaa
section PartVNum
open Go.RowKit

end PartVNum
section PartPgC
open Go.RowKit

end PartPgC
section PartRdC
open Go.RowKit

end PartRdC
end Go.Proofs.Ytbaoadfnmicijaa
