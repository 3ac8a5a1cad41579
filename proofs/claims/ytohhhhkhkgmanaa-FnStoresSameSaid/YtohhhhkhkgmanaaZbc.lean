/- Plain facts: the rounds of Tokens. Plain facts: tokens told from what is left of a text. The program's reader of a pattern: what it holds; one piece more. -/
import Derived.Test.YtohhhhkhkgmanaaZae
import Derived.Test.YtohhhhkhkgmanaaZai
import Derived.Test.YtohhhhkhkgmanaaZac
import Derived.Test.YtohhhhkhkgmanaaZbb
import Derived.Deep.RegionHeld3
namespace Go.Proofs.Ytohhhhkhkgmanaa
section PartTkQ
namespace Tk
end Tk
end PartTkQ
section PartTkS
namespace Tk

def blank (b : UInt8) : Bool := b == 32 || b == 9
/-- The place behind blanks, tabs and a remark. -/
def gap (l : List UInt8) (k : Nat) : Nat := if l[run blank l k]? = some 35 then run (fun b => b != 10) l (run blank l k) else run blank l k
end Tk
end PartTkS
section PartRiA
open Go.RowKit

theorem setB {w : World} {g : Nat} {a b : Value} {t : TypeId} (h : w.heap[g]? = some (.cells #[a, b] t (0, 0))) (u : Value) : (w.setCell ⟨g, 1, none⟩ u).heap[g]? = some (.cells #[a, u] t (0, 0)) := by
  simp [World.setCell, Array.getElem?_modify, h]

end PartRiA
end Go.Proofs.Ytohhhhkhkgmanaa
