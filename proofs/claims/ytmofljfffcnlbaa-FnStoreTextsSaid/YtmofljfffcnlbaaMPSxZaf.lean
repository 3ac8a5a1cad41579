/- The specification's reader of a pattern: one piece more. Is it a sign that stands for something else, in a pattern? -/
import Derived.Test.YtmofljfffcnlbaaMPSxZae
import Derived.Test.YtmofljfffcnlbaaMPSxZaa
import Derived.Deep.RegionLaw
import Derived.Deep.AppendLies
namespace Go.Proofs.Ytmofljfffcnlbaa
section PartRdB
open Go.RowKit

end PartRdB
section PartRdC
open Go.RowKit

def signs : List UInt8 := [42, 43, 63, 124, 40, 41, 91, 93, 46, 94, 36, 92]
end PartRdC
end Go.Proofs.Ytmofljfffcnlbaa
