/- Code in bytes: the specification of CodeText. Plain facts: what is read of the bytes of code. Plain facts, without the program: the sixteen figures, a text in figures, and back. -/
import Derived.Test.YtbaoadfnmicijaaMPMsOZak
import Derived.Test.YtbaoadfnmicijaaMPMsOBwA
import Derived.Test.YtbaoadfnmicijaaMPMsOZal
import Derived.Test.YtbaoadfnmicijaaMPMsOZaa
namespace Go.Proofs.Ytbaoadfnmicijaa
section PartCtA
open Go.RowKit

namespace Cd
def short (t : ByteArray) : List UInt8 := Pl.vb 8 t.size ++ t.data.toList
def two (x : Ins) : List UInt8 := [UInt8.ofNat x.op.toNat, UInt8.ofNat x.arg.toNat]
/-- The bytes of right code. -/
def bytes (ts : List ByteArray) (xs : List Ins) (ln en : Int) : List UInt8 :=
  Pl.vb 8 ts.length ++ ts.flatMap short ++ Pl.vb 8 xs.length ++ xs.flatMap two ++ Pl.vb 8 ln.toNat ++ Pl.vb 8 en.toNat
end Cd

end PartCtA
section PartRcP
namespace Pl
end Pl

namespace Rc
/-- A number at a place, and the place behind it. -/
def rv (L : List UInt8) (a : Nat) : Option (Nat × Nat) := (Pl.rvF 5 [] (L.drop a)).map fun r => (r.1, a + r.2)
/-- A short text at a place. -/
def rs (L : List UInt8) (a : Nat) : Option (List UInt8 × Nat) :=
  match rv L a with
  | none => none
  | some (m, k) => if m ≤ 20000 ∧ k + m ≤ L.length then some ((L.drop k).take m, k + m) else none
end Rc
end PartRcP
section PartPlainC
namespace Pl

end Pl
end PartPlainC
end Go.Proofs.Ytbaoadfnmicijaa
