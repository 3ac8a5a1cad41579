/- What is read of the bytes of code: the specification's reader of numbers and short texts. -/
import Derived.Test.YtbaoadfnmicijaaMPMsOZam
import Derived.Test.YtbaoadfnmicijaaMPMsOVrD
import Derived.Test.YtbaoadfnmicijaaMPMsOZab
import Derived.Test.YtbaoadfnmicijaaMPMsORdK
import Derived.Deep.RegionWith
namespace Go.Proofs.Ytbaoadfnmicijaa
open Go.RowKit

/-- The number that is told. -/
def Rc.num : Bool → Option (Nat × Nat) → Nat
  | false, some (n, _) => n
  | _, _ => 0
end Go.Proofs.Ytbaoadfnmicijaa
