/- The lock's own functions and types in this program, and that it holds them: each a closed fact. -/
import Derived.Test.YtljnffanajcifaaProg
import Derived.Conc.MuLone
import Derived.KernelRfl
namespace Go.Proofs.Ytljnffanajcifaa
end Go.Proofs.Ytljnffanajcifaa
