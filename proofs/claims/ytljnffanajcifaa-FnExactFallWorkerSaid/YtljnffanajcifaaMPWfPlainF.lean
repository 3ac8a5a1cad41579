/- Plain facts, without the program: a number in decimal figures, and when a text of figures is that of its number. -/
import Derived.Test.YtljnffanajcifaaMPWfPlainD
namespace Go.Proofs.Ytljnffanajcifaa
namespace Pl

/-- The byte of a decimal figure. -/
def ch (d : Nat) : UInt8 := UInt8.ofNat (48 + d)
/-- The figures of n, none of nought; at most f of them. -/
def dg : Nat → Nat → List UInt8
  | 0, _ => []
  | f + 1, n => if n = 0 then [] else dg f (n / 10) ++ [ch (n % 10)]
end Pl
end Go.Proofs.Ytljnffanajcifaa
