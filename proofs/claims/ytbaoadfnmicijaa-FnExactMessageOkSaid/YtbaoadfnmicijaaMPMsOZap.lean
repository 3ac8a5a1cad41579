/- Plain facts: a store in bytes, and that no two small stores have the same bytes. strings.Compare What is found by: foundBy of a Var and of a Cell; the first one of a list. -/
import Derived.Test.YtbaoadfnmicijaaMPMsOZam
import Derived.Test.YtbaoadfnmicijaaMPMsOPlainH
import Derived.Test.YtbaoadfnmicijaaMPMsOZao
import Derived.Shelf.Strings.Builder1
import Derived.Shelf.Small.Utf8
import Derived.Shelf.Small.Strs
import Derived.Shelf.Strings.BuilderF
import Derived.Shelf.Strings.BuilderK
import Derived.Shelf.LaysM
import Derived.Shelf.Strconv.Clone
import Derived.Shelf.Strings.Search1
import Derived.Shelf.Strings.Runes
import Derived.Test.YtbaoadfnmicijaaProg
import Derived.Laws.StructEq
import Derived.Deep.RegionWith
namespace Go.Proofs.Ytbaoadfnmicijaa
section PartStB
namespace Pl
end Pl
namespace Cd
end Cd
namespace St
def vbytes (x : Vr) : List UInt8 := Cd.short x.name ++ Cd.short x.val
def cbytes (x : Cl) : List UInt8 := Cd.short x.name ++ (Cd.short x.key ++ Cd.short x.val)
/-- The bytes of a store. -/
def bytes (vs : List Vr) (cs : List Cl) (o : ByteArray) : List UInt8 :=
  Pl.vb 8 vs.length ++ vs.flatMap vbytes ++ Pl.vb 8 cs.length ++ cs.flatMap cbytes ++ Cd.short o
end St
end PartStB
section PartShelfO
open Go.Shelf Go.Proofs
end PartShelfO
section PartFbA
open Go.RowKit

end PartFbA
end Go.Proofs.Ytbaoadfnmicijaa
