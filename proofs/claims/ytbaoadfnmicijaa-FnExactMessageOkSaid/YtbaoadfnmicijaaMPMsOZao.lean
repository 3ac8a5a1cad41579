/- What a store answers: plain facts. Are two stores the same: the library's Equal at Vars and at Cells, the program's SameStore. When a store is right: plain facts. -/
import Derived.Test.YtbaoadfnmicijaaMPMsOStS
import Derived.WalkLawsBesides
import Derived.Laws.StructEq
import Derived.Test.YtbaoadfnmicijaaMPMsOZad
import Derived.Lib.Bytealg
namespace Go.Proofs.Ytbaoadfnmicijaa
section PartSvP
namespace St
/-- The first that p says so of. -/
def first {α : Type} (p : α → Bool) (no : α) : List α → α
  | [] => no
  | x :: r => if p x then x else first p no r
/-- What CellOf answers, the key cut. -/
def cell (cs : List Cl) (name key : ByteArray) : ByteArray := (first (fun x : Cl => (x.name.toList == name.toList) && (x.key.toList == key.toList)) Cl.no cs).val
end St
end PartSvP
section PartEqA
open Go.RowKit

namespace St
end St

end PartEqA
section PartOkP
namespace St
/-- Which of two keys is ahead. -/
def lt2 (a0 a1 b0 b1 : ByteArray) : Bool := Op.bytesLess a0.toList b0.toList || ((a0.toList == b0.toList) && Op.bytesLess a1.toList b1.toList)
def aheadV (vs : List Vr) (i : Nat) : Bool := lt2 (vs.getD (i - 1) Vr.no).name ByteArray.empty (vs.getD i Vr.no).name ByteArray.empty
def aheadC (cs : List Cl) (i : Nat) : Bool := lt2 (cs.getD (i - 1) Cl.no).name (cs.getD (i - 1) Cl.no).key (cs.getD i Cl.no).name (cs.getD i Cl.no).key
def ascV (vs : List Vr) (i : Nat) : Bool := decide (i = 0) || aheadV vs i
def ascC (cs : List Cl) (i : Nat) : Bool := decide (i = 0) || aheadC cs i
def goodV (vs : List Vr) (i : Nat) : Bool := Cd.nm (vs.getD i Vr.no).name.data.toList && decide ((vs.getD i Vr.no).val.size ≤ 40)
def goodC (cs : List Cl) (i : Nat) : Bool := Cd.nm (cs.getD i Cl.no).name.data.toList && (decide ((cs.getD i Cl.no).key.size ≤ 40) && decide ((cs.getD i Cl.no).val.size ≤ 40))
/-- When a store is right. -/
def ok (vs : List Vr) (cs : List Cl) (o : ByteArray) : Bool :=
  decide (vs.length ≤ 60 ∧ cs.length ≤ 2000 ∧ o.size ≤ 3000) && (((List.range vs.length).all (ascV vs) && (List.range cs.length).all (ascC cs)) && ((List.range vs.length).all (goodV vs) && (List.range cs.length).all (goodC cs)))
end St
end PartOkP
end Go.Proofs.Ytbaoadfnmicijaa
