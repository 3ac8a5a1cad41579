/- Plain facts, without the program: a number in decimal figures, and when a text of figures is that of its number. -/
import Derived.Test.YtljnffanajcifaaMPWnPlainD
namespace Go.Proofs.Ytljnffanajcifaa
namespace Pl

end Pl
end Go.Proofs.Ytljnffanajcifaa
