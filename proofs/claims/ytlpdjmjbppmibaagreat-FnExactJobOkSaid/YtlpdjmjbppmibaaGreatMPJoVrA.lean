/- What spec.l01Var and both VarText answer, at every number. -/
import Derived.Test.YtlpdjmjbppmibaaGreatMPJoZad
namespace Go.Proofs.YtlpdjmjbppmibaaGreat
open Go.RowKit

end Go.Proofs.YtlpdjmjbppmibaaGreat
