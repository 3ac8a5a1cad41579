/- A message in the law: its size, its copy, how it is opened; the law on MessageOk, from what the program answers. -/
import Derived.Test.YtdkenmpdgadcpaaDoorMPRmMsP
import Derived.Test.YtdkenmpdgadcpaaDoorMPRmCoS
namespace Go.Proofs.YtdkenmpdgadcpaaDoor
open Go.RowKit

end Go.Proofs.YtdkenmpdgadcpaaDoor
