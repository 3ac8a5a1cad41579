/- The specification's reader of a pattern: one piece more. Is it a sign that stands for something else, in a pattern? -/
import Derived.Test.YthnmopldpgdenaaMPTcZaf
import Derived.Test.YthnmopldpgdenaaMPTcZaa
import Derived.Test.YthnmopldpgdenaaMPTcZae
import Derived.Deep.RegionLaw
import Derived.Deep.AppendLies
namespace Go.Proofs.Ythnmopldpgdenaa
section PartRdB
open Go.RowKit

end PartRdB
section PartRdC
open Go.RowKit

end PartRdC
end Go.Proofs.Ythnmopldpgdenaa
