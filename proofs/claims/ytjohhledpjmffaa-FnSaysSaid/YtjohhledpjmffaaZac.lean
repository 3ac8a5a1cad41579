/- A store in memory: how great it is, the law's own copy of it, two of the same, what is handed in. What a store answers: plain facts. -/
import Derived.Test.YtjohhledpjmffaaZab
namespace Go.Proofs.Ytjohhledpjmffaa
section PartStS
open Go.RowKit

theorem s2_1 (w : World) (A B : Obj) : ((w.alloc A).alloc B).heap[w.heap.size + 1]? = some B := by
  show ((w.heap.push A).push B)[w.heap.size + 1]? = some B
  rw [Array.getElem?_push]
  simp
theorem s2_0 (w : World) (A B : Obj) : ((w.alloc A).alloc B).heap[w.heap.size]? = some A := by
  show ((w.heap.push A).push B)[w.heap.size]? = some A
  rw [Array.getElem?_push, if_neg (by simp), Array.getElem?_push]
  simp
/-- A store that is not great. -/
def StSmall (vs : List Vr) (cs : List Cl) (o : ByteArray) : Prop :=
  vs.length ≤ 1048576 ∧ VrSmall vs vs.length ∧ cs.length ≤ 1048576 ∧ ClSmall cs cs.length ∧ o.size ≤ 1048576

end PartStS
section PartSvP
namespace St
/-- The first that p says so of. -/
def first {α : Type} (p : α → Bool) (no : α) : List α → α
  | [] => no
  | x :: r => if p x then x else first p no r
/-- What CellOf answers, the key cut. -/
def cell (cs : List Cl) (name key : ByteArray) : ByteArray := (first (fun x : Cl => (x.name.toList == name.toList) && (x.key.toList == key.toList)) Cl.no cs).val
end St
end PartSvP
end Go.Proofs.Ytjohhledpjmffaa
