/- The specification's reader of a pattern: alternatives; and what ReadPattern of the specification answers, at every text. What ReadPattern of the specification answers, at every text. The specification of ProgramOk: a node's text. -/
import Derived.Test.YtmofljfffcnlbaaMPSxRdI
import Derived.Laws.ResultCell
import Derived.Laws.Rows
import Derived.Test.YtmofljfffcnlbaaMPSxZao
namespace Go.Proofs.Ytmofljfffcnlbaa
section PartRdJ
open Go.RowKit

end PartRdJ
section PartRdK
open Go.RowKit

theorem FB.below {g B C : Nat} {w w' : World} (h : FB g B w w') (hC : C ≤ B) (hg : C ≤ g) : Below C w w' := ⟨h.2.2.1, h.2.2.2.1, h.2.2.2.2, h.1, fun k hk => h.2.1 k (by omega) (by omega)⟩

end PartRdK
section PartPgD
open Go.RowKit

end PartPgD
end Go.Proofs.Ytmofljfffcnlbaa
