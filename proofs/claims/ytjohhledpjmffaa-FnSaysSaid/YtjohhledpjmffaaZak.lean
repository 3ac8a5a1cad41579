/- The specification's reader of a pattern: one piece more. Is it a sign that stands for something else, in a pattern? -/
import Derived.Test.YtjohhledpjmffaaZaj
import Derived.Test.YtjohhledpjmffaaZaa
import Derived.Deep.RegionLaw
import Derived.Deep.AppendLies
namespace Go.Proofs.Ytjohhledpjmffaa
section PartRdB
open Go.RowKit

end PartRdB
section PartRdC
open Go.RowKit

def signs : List UInt8 := [42, 43, 63, 124, 40, 41, 91, 93, 46, 94, 36, 92]
end PartRdC
end Go.Proofs.Ytjohhledpjmffaa
