/- What the specification's Cut answers, at every text. -/
import Derived.Test.YtjbodcakhnkggaqVCutI
namespace Go.Proofs.Ytjbodcakhnkggaq
open Go.RowKit

end Go.Proofs.Ytjbodcakhnkggaq
