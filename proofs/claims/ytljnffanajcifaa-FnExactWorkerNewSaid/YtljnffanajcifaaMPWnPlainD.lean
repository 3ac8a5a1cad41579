/- Plain facts, without the program: what each figure of a text is worth, which is its place among the figures. -/
import Derived.Test.YtljnffanajcifaaMPWnPlainC
namespace Go.Proofs.Ytljnffanajcifaa
namespace Pl

end Pl
end Go.Proofs.Ytljnffanajcifaa
