/- The specification's reader of a pattern: what it holds, and its two tests. -/
import Derived.Test.YtljnffanajcifaaProg
import Derived.Test.YtljnffanajcifaaMPWtPPat
import Derived.WalkKit
import Derived.WalkSpells
import Derived.WalkLawsBesides
import Derived.Handy
import Derived.Lib.Strings
import Derived.BigQuiet
import Derived.Deep.QuietTactic
namespace Go.Proofs.Ytljnffanajcifaa
open Go.RowKit

end Go.Proofs.Ytljnffanajcifaa
