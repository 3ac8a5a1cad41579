/- Plain facts, without the program: what a figure of sixteen is worth, and bytes out of pairs of such. Plain facts, without the program: a number in decimal figures, and when a text of figures is that of its number. -/
import Derived.Test.YtdkenmpdgadcpaaDoorMPRmZav
namespace Go.Proofs.YtdkenmpdgadcpaaDoor
section PartPlainE
namespace Pl

end Pl
end PartPlainE
section PartPlainF
namespace Pl

end Pl
end PartPlainF
end Go.Proofs.YtdkenmpdgadcpaaDoor
