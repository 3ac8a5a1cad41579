/- The library's IndexByte. -/
import Derived.Test.YtibmagmdeacenacShelfP
namespace Go.Proofs.Ytibmagmdeacenac
end Go.Proofs.Ytibmagmdeacenac
