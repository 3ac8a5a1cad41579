/- What a store answers: plain facts. Are two stores the same: the library's Equal at Vars and at Cells, the program's SameStore. -/
import Derived.Test.YtbaoadfnmicijaaMStS
import Derived.WalkLawsBesides
import Derived.Laws.StructEq
namespace Go.Proofs.Ytbaoadfnmicijaa
section PartSvP
namespace St
/-- The first that p says so of. -/
def first {α : Type} (p : α → Bool) (no : α) : List α → α
  | [] => no
  | x :: r => if p x then x else first p no r
/-- What CellOf answers, the key cut. -/
def cell (cs : List Cl) (name key : ByteArray) : ByteArray := (first (fun x : Cl => (x.name.toList == name.toList) && (x.key.toList == key.toList)) Cl.no cs).val
end St
end PartSvP
section PartEqA
open Go.RowKit

namespace St
theorem all_yes {n : Nat} {p : Nat → Bool} (h : ∀ q, q < n → p q = true) : (List.range n).all p = true := List.all_eq_true.2 fun q hq => h q (List.mem_range.1 hq)
theorem all_no {n k : Nat} {p : Nat → Bool} (hk : k < n) (h : p k = false) : (List.range n).all p = false := List.all_eq_false.2 ⟨k, List.mem_range.2 hk, by rw [h]; simp⟩
def eqVr (x y : Vr) : Bool := (x.name.toList == y.name.toList) && (x.val.toList == y.val.toList)
def eqCl (x y : Cl) : Bool := (x.name.toList == y.name.toList) && ((x.key.toList == y.key.toList) && (x.val.toList == y.val.toList))
def eqVrs (a b : List Vr) : Bool := decide (a.length = b.length) && (List.range a.length).all fun i => eqVr (a.getD i Vr.no) (b.getD i Vr.no)
def eqCls (a b : List Cl) : Bool := decide (a.length = b.length) && (List.range a.length).all fun i => eqCl (a.getD i Cl.no) (b.getD i Cl.no)
/-- Are two stores the same. -/
def same (a b : List Vr) (c d : List Cl) (o p : ByteArray) : Bool := eqVrs a b && (eqCls c d && (o.toList == p.toList))
end St

end PartEqA
end Go.Proofs.Ytbaoadfnmicijaa
