/- Plain facts, without the program: the sixteen figures, a text in figures, and back. -/
import Derived.Test.YtljnffanajcifaaMPWfPlainA
namespace Go.Proofs.Ytljnffanajcifaa
namespace Pl

end Pl
end Go.Proofs.Ytljnffanajcifaa
