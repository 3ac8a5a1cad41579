/- The search of a byte, by the library. -/
import Derived.Test.YtlnmbahakdmkgaaShelfP
namespace Go.Proofs.Ytlnmbahakdmkgaa
end Go.Proofs.Ytlnmbahakdmkgaa
