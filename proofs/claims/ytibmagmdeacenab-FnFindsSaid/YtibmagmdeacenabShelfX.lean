/- The library's IndexByte. -/
import Derived.Test.YtibmagmdeacenabShelfP
namespace Go.Proofs.Ytibmagmdeacenab
end Go.Proofs.Ytibmagmdeacenab
