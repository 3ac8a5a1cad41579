/- Plain facts, without the program: the sixteen figures, a text in figures, and back. -/
import Derived.Test.YteajkkcelajadaaPlainA
namespace Go.Proofs.Yteajkkcelajadaa
namespace Pl

end Pl
end Go.Proofs.Yteajkkcelajadaa
