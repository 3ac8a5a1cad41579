/- Small laws for the walks: a byte appended to a row of bytes that the call itself made, and the string of such a row. -/
import Derived.Test.YtljnffanajcifaaProg
import Derived.Test.YtljnffanajcifaaMPWnPlainA
import Derived.WalkKit
import Derived.WalkSpells
import Derived.WalkLawsBesides
import Derived.Handy
import Derived.Laws.BytesArg
namespace Go.Proofs.Ytljnffanajcifaa
open Go.RowKit

/-- A byte as a value. -/
def bv (b : UInt8) : Value := .int .u8 (b.toNat : Int)

/-- The row of bytes bs, in the call's own memory from block B on. -/
def Row (B : Nat) (w : World) (v : Value) (bs : List UInt8) : Prop := w.ownsRow B 5 1 v bs.length (bs.map bv)

theorem Row.alloc {B : Nat} {w : World} {v : Value} {bs : List UInt8} (h : Row B w v bs) (o : Obj) : Row B (w.alloc o) v bs := World.ownsRow.alloc h o

end Go.Proofs.Ytljnffanajcifaa
