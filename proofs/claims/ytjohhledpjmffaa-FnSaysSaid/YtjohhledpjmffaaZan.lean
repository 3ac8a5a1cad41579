/- The specification's reader of a pattern: a set, and small laws on what a part leaves. Plain facts, without the program: the sixteen figures, a text in figures, and back. -/
import Derived.Test.YtjohhledpjmffaaZal
import Derived.Test.YtjohhledpjmffaaZam
namespace Go.Proofs.Ytjohhledpjmffaa
section PartRdF
open Go.RowKit

theorem FB.draw {g B : Nat} {w w' : World} (h : FB g B w w') (k : Nat) : FB g B w (w'.drewN k) := h

end PartRdF
section PartPlainC
namespace Pl

end Pl
end PartPlainC
end Go.Proofs.Ytjohhledpjmffaa
