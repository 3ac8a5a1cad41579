/- Plain facts, without the program: a number in decimal figures, and when a text of figures is that of its number. Plain facts, without the program: what VarText, ShortText, Hex and Decimal write is read back. -/
import Derived.Test.YtbaoadfnmicijaaMZar
import Derived.Test.YtbaoadfnmicijaaMPlainB
namespace Go.Proofs.Ytbaoadfnmicijaa
section PartPlainF
namespace Pl

end Pl
end PartPlainF
section PartPlainH
namespace Pl

end Pl
end PartPlainH
end Go.Proofs.Ytbaoadfnmicijaa
