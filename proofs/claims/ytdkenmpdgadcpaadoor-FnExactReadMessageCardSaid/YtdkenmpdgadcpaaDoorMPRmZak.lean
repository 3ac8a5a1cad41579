/- The specification of ProgramOk: how many kids; expressions; a node's text. Is it a sign that stands for something else, in a pattern? -/
import Derived.Test.YtdkenmpdgadcpaaDoorMPRmZaj
import Derived.Test.YtdkenmpdgadcpaaDoorMPRmZah
import Derived.Test.YtdkenmpdgadcpaaDoorMPRmZag
namespace Go.Proofs.YtdkenmpdgadcpaaDoor
section PartPgC
open Go.RowKit

end PartPgC
section PartRdC
open Go.RowKit

def signs : List UInt8 := [42, 43, 63, 124, 40, 41, 91, 93, 46, 94, 36, 92]
end PartRdC
end Go.Proofs.YtdkenmpdgadcpaaDoor
