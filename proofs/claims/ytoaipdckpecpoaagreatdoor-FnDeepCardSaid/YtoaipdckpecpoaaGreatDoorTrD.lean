/- Trees: what is shown of a statement. -/
import Derived.Test.YtoaipdckpecpoaaGreatDoorZao
namespace Go.Proofs.YtoaipdckpecpoaaGreatDoor
open Go.RowKit

end Go.Proofs.YtoaipdckpecpoaaGreatDoor
