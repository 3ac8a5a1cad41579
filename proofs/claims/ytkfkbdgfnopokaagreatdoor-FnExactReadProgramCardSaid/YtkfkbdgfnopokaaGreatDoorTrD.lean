/- Trees: what is shown of a statement. -/
import Derived.Test.YtkfkbdgfnopokaaGreatDoorZao
namespace Go.Proofs.YtkfkbdgfnopokaaGreatDoor
open Go.RowKit
end Go.Proofs.YtkfkbdgfnopokaaGreatDoor
