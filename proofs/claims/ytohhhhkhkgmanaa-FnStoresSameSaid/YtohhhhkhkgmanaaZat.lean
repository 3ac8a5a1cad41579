/- The specification's reader of a pattern: one thing behind the other. The specification's reader of a pattern: alternatives; and what ReadPattern of the specification answers, at every text. What ReadPattern of the specification answers, at every text. -/
import Derived.Test.YtohhhhkhkgmanaaZas
import Derived.Laws.ResultCell
import Derived.Laws.Rows
namespace Go.Proofs.Ytohhhhkhkgmanaa
section PartRdI
open Go.RowKit

end PartRdI
section PartRdJ
open Go.RowKit

end PartRdJ
section PartRdK
open Go.RowKit

end PartRdK
end Go.Proofs.Ytohhhhkhkgmanaa
