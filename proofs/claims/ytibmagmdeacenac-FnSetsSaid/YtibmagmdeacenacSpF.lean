/- Where a piece may end, by the specification: again and again, walked. -/
import Derived.Test.YtibmagmdeacenacEnA
namespace Go.Proofs.Ytibmagmdeacenac
open Go.RowKit

end Go.Proofs.Ytibmagmdeacenac
