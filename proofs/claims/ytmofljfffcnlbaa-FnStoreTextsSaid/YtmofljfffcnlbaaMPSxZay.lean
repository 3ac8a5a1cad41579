/- Plain facts: the rounds of Tokens. Plain facts: tokens told from what is left of a text. The program's reader of a pattern: what it holds; one piece more. The program's reader of a pattern: looking at the next sign, taking it, and what each part leaves. -/
import Derived.Test.YtmofljfffcnlbaaMPSxZad
import Derived.Test.YtmofljfffcnlbaaMPSxZag
import Derived.Test.YtmofljfffcnlbaaMPSxZab
import Derived.Test.YtmofljfffcnlbaaMPSxZax
import Derived.Deep.RegionHeld3
import Derived.Test.YtmofljfffcnlbaaMPSxZap
namespace Go.Proofs.Ytmofljfffcnlbaa
section PartTkQ
namespace Tk
end Tk
end PartTkQ
section PartTkS
namespace Tk

def blank (b : UInt8) : Bool := b == 32 || b == 9
/-- The place behind blanks, tabs and a remark. -/
def gap (l : List UInt8) (k : Nat) : Nat := if l[run blank l k]? = some 35 then run (fun b => b != 10) l (run blank l k) else run blank l k
end Tk
end PartTkS
section PartRiA
open Go.RowKit

end PartRiA
section PartRiB
open Go.RowKit

/-- A text of the bytes l. -/
abbrev tx (l : List UInt8) : ByteArray := ⟨l.toArray⟩
theorem drop_at (l : List UInt8) (a : Nat) (b : UInt8) (h : l[a]? = some b) : l.drop a = b :: l.drop (a + 1) := by
  obtain ⟨hlt, e⟩ := List.getElem?_eq_some_iff.1 h
  rw [List.drop_eq_getElem_cons hlt, e]

end PartRiB
end Go.Proofs.Ytmofljfffcnlbaa
