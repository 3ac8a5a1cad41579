/- Plain facts: what the drawn patterns are read to. -/
import Derived.Test.YtibmagmdeacenacFnP
import Derived.Test.YtibmagmdeacenacDT
namespace Go.Proofs.Ytibmagmdeacenac
namespace Pp
/-- (a)|(b). -/
def altText (a b : List UInt8) : List UInt8 := [40] ++ a ++ [41, 124, 40] ++ b ++ [41]
def rowText (a b : List UInt8) : List UInt8 := [40] ++ a ++ [41, 40] ++ b ++ [41]
def manyText (a : List UInt8) (c : UInt8) : List UInt8 := [40] ++ a ++ [41, c]
def moreText (a : List UInt8) : List UInt8 := [40] ++ a ++ [41, 40] ++ a ++ [41, 42]
def okOne (a : List UInt8) : Bool := match read a with
  | some p => right p && decide (0 < p.length)
  | none => false
def okTwo (op : Nat) (a b t : List UInt8) : Bool := match read a, read b, read t with
  | some p, some q, some r => right r && within p r 0 && within q r p.length && decide (r.length = p.length + q.length + 1) && decide (r[p.length + q.length]? = some ⟨op, [], [p.length - 1, p.length + q.length - 1]⟩) && decide (0 < p.length) && decide (0 < q.length) && right p && right q
  | _, _, _ => false
def okMany (op : Nat) (a t : List UInt8) : Bool := match read a, read t with
  | some p, some r => right r && within p r 0 && decide (r.length = p.length + 1) && decide (r[p.length]? = some ⟨op, [], [p.length - 1]⟩) && decide (0 < p.length) && right p
  | _, _ => false
def okMore (a : List UInt8) : Bool := match read a, read (moreText a) with
  | some p, some r => right r && within p r 0 && within p r p.length && decide (r.length = p.length + p.length + 2) && decide (r[p.length + p.length]? = some ⟨7, [], [p.length + p.length - 1]⟩) && decide (r[p.length + p.length + 1]? = some ⟨5, [], [p.length - 1, p.length + p.length]⟩) && decide (0 < p.length) && right p
  | _, _ => false
end Pp
set_option maxRecDepth 100000 in
theorem okOne_all : ∀ a ∈ texts04, Pp.okOne a = true := by decide +kernel
set_option maxRecDepth 100000 in
theorem okAlt_all : ∀ a ∈ texts04, ∀ b ∈ texts04, Pp.okTwo 6 a b (Pp.altText a b) = true := by decide +kernel
set_option maxRecDepth 100000 in
theorem okRow_all : ∀ a ∈ texts04, ∀ b ∈ texts04, Pp.okTwo 5 a b (Pp.rowText a b) = true := by decide +kernel
set_option maxRecDepth 100000 in
theorem okStar_all : ∀ a ∈ texts04, Pp.okMany 7 a (Pp.manyText a 42) = true := by decide +kernel
set_option maxRecDepth 100000 in
theorem okPlus_all : ∀ a ∈ texts04, Pp.okMany 8 a (Pp.manyText a 43) = true := by decide +kernel
set_option maxRecDepth 100000 in
theorem okOpt_all : ∀ a ∈ texts04, Pp.okMany 9 a (Pp.manyText a 63) = true := by decide +kernel
set_option maxRecDepth 100000 in
theorem okMore_all : ∀ a ∈ texts04, Pp.okMore a = true := by decide +kernel
#print axioms okAlt_all
end Go.Proofs.Ytibmagmdeacenac
