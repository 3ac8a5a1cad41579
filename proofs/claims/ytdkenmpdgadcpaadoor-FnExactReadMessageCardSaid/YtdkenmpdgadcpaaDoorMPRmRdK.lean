/- What ReadPattern of the specification answers, at every text. -/
import Derived.Test.YtdkenmpdgadcpaaDoorMPRmZan
import Derived.Laws.ResultCell
import Derived.Laws.Rows
namespace Go.Proofs.YtdkenmpdgadcpaaDoor
open Go.RowKit

theorem FB.below {g B C : Nat} {w w' : World} (h : FB g B w w') (hC : C ≤ B) (hg : C ≤ g) : Below C w w' := ⟨h.2.2.1, h.2.2.2.1, h.2.2.2.2, h.1, fun k hk => h.2.1 k (by omega) (by omega)⟩

end Go.Proofs.YtdkenmpdgadcpaaDoor
