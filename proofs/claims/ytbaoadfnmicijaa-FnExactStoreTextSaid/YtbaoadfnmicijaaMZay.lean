/- The program's reader of a pattern: what it holds; one piece more. The program's reader of a pattern: looking at the next sign, taking it, and what each part leaves. -/
import Derived.Test.YtbaoadfnmicijaaMZal
import Derived.Test.YtbaoadfnmicijaaMZap
import Derived.Test.YtbaoadfnmicijaaMZaw
import Derived.Deep.RegionHeld3
import Derived.Test.YtbaoadfnmicijaaMPPb
namespace Go.Proofs.Ytbaoadfnmicijaa
section PartRiA
open Go.RowKit

end PartRiA
section PartRiB
open Go.RowKit

/-- A text of the bytes l. -/
abbrev tx (l : List UInt8) : ByteArray := ⟨l.toArray⟩
theorem drop_at (l : List UInt8) (a : Nat) (b : UInt8) (h : l[a]? = some b) : l.drop a = b :: l.drop (a + 1) := by
  obtain ⟨hlt, e⟩ := List.getElem?_eq_some_iff.1 h
  rw [List.drop_eq_getElem_cons hlt, e]

end PartRiB
end Go.Proofs.Ytbaoadfnmicijaa
