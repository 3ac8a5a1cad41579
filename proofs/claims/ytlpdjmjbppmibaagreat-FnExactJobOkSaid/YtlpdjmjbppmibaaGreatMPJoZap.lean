/- Plain facts, without the program: what VarText, ShortText, Hex and Decimal write is read back. Are two stores the same: the library's Equal at Vars and at Cells, the program's SameStore. Plain facts: a store in bytes, and that no two small stores have the same bytes. -/
import Derived.Test.YtlpdjmjbppmibaaGreatMPJoZal
import Derived.Test.YtlpdjmjbppmibaaGreatMPJoZao
import Derived.Test.YtlpdjmjbppmibaaGreatMPJoZah
import Derived.WalkLawsBesides
import Derived.Laws.StructEq
import Derived.Test.YtlpdjmjbppmibaaGreatMPJoZan
namespace Go.Proofs.YtlpdjmjbppmibaaGreat
section PartPlainH
namespace Pl

end Pl
end PartPlainH
section PartEqA
open Go.RowKit

namespace St
theorem all_yes {n : Nat} {p : Nat → Bool} (h : ∀ q, q < n → p q = true) : (List.range n).all p = true := List.all_eq_true.2 fun q hq => h q (List.mem_range.1 hq)
theorem all_no {n k : Nat} {p : Nat → Bool} (hk : k < n) (h : p k = false) : (List.range n).all p = false := List.all_eq_false.2 ⟨k, List.mem_range.2 hk, by rw [h]; simp⟩
def eqVr (x y : Vr) : Bool := (x.name.toList == y.name.toList) && (x.val.toList == y.val.toList)
def eqCl (x y : Cl) : Bool := (x.name.toList == y.name.toList) && ((x.key.toList == y.key.toList) && (x.val.toList == y.val.toList))
def eqVrs (a b : List Vr) : Bool := decide (a.length = b.length) && (List.range a.length).all fun i => eqVr (a.getD i Vr.no) (b.getD i Vr.no)
def eqCls (a b : List Cl) : Bool := decide (a.length = b.length) && (List.range a.length).all fun i => eqCl (a.getD i Cl.no) (b.getD i Cl.no)
/-- Are two stores the same. -/
def same (a b : List Vr) (c d : List Cl) (o p : ByteArray) : Bool := eqVrs a b && (eqCls c d && (o.toList == p.toList))
end St

end PartEqA
section PartStB
namespace Pl
end Pl
namespace Cd
end Cd
namespace St
def vbytes (x : Vr) : List UInt8 := Cd.short x.name ++ Cd.short x.val
def cbytes (x : Cl) : List UInt8 := Cd.short x.name ++ (Cd.short x.key ++ Cd.short x.val)
/-- The bytes of a store. -/
def bytes (vs : List Vr) (cs : List Cl) (o : ByteArray) : List UInt8 :=
  Pl.vb 8 vs.length ++ vs.flatMap vbytes ++ Pl.vb 8 cs.length ++ cs.flatMap cbytes ++ Cd.short o
end St
end PartStB
end Go.Proofs.YtlpdjmjbppmibaaGreat
