/- Code in bytes: the specification of CodeText. Code in bytes: the specification of CodeText, whole. Plain facts, without the program: the sixteen figures, a text in figures, and back. -/
import Derived.Test.YtlpdjmjbppmibaaGreatMPJoZal
import Derived.Test.YtlpdjmjbppmibaaGreatMPJoZam
import Derived.Deep.RegionWith
import Derived.Test.YtlpdjmjbppmibaaGreatMPJoZad
namespace Go.Proofs.YtlpdjmjbppmibaaGreat
section PartCtA
open Go.RowKit

namespace Cd
def short (t : ByteArray) : List UInt8 := Pl.vb 8 t.size ++ t.data.toList
def two (x : Ins) : List UInt8 := [UInt8.ofNat x.op.toNat, UInt8.ofNat x.arg.toNat]
/-- The bytes of right code. -/
def bytes (ts : List ByteArray) (xs : List Ins) (ln en : Int) : List UInt8 :=
  Pl.vb 8 ts.length ++ ts.flatMap short ++ Pl.vb 8 xs.length ++ xs.flatMap two ++ Pl.vb 8 ln.toNat ++ Pl.vb 8 en.toNat
end Cd

end PartCtA
section PartCtB
open Go.RowKit

namespace Cd
end Cd

end PartCtB
section PartPlainC
namespace Pl

theorem take_all (s : ByteArray) (k : Nat) (h : s.size ≤ k) : s.data.toList.take k = s.data.toList := List.take_of_length_le (by simpa using h)
end Pl
end PartPlainC
end Go.Proofs.YtlpdjmjbppmibaaGreat
