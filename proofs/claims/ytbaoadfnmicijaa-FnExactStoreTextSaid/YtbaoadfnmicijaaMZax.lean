/- Plain facts: the rounds of Tokens. Plain facts: tokens told from what is left of a text. -/
import Derived.Test.YtbaoadfnmicijaaMZac
namespace Go.Proofs.Ytbaoadfnmicijaa
section PartTkQ
namespace Tk
end Tk
end PartTkQ
section PartTkS
namespace Tk

def blank (b : UInt8) : Bool := b == 32 || b == 9
/-- The place behind blanks, tabs and a remark. -/
def gap (l : List UInt8) (k : Nat) : Nat := if l[run blank l k]? = some 35 then run (fun b => b != 10) l (run blank l k) else run blank l k
end Tk
end PartTkS
end Go.Proofs.Ytbaoadfnmicijaa
