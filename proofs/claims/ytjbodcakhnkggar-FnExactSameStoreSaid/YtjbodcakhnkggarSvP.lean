/- What a store answers: plain facts. -/
import Derived.Test.YtjbodcakhnkggarStS
namespace Go.Proofs.Ytjbodcakhnkggar
namespace St
/-- The first that p says so of. -/
def first {α : Type} (p : α → Bool) (no : α) : List α → α
  | [] => no
  | x :: r => if p x then x else first p no r
theorem first_drop {α : Type} (p : α → Bool) (no : α) (xs : List α) (k : Nat) (h : k < xs.length) : first p no (xs.drop k) = if p (xs.getD k no) then xs.getD k no else first p no (xs.drop (k + 1)) := by
  rw [List.drop_eq_getElem_cons h, first, show xs.getD k no = xs[k] by simp [h]]
theorem first_end {α : Type} (p : α → Bool) (no : α) (xs : List α) (k : Nat) (h : xs.length ≤ k) : first p no (xs.drop k) = no := by
  rw [List.drop_eq_nil_of_le h]; rfl
/-- What VarOf answers. -/
def var (vs : List Vr) (name : ByteArray) : ByteArray := (first (fun x : Vr => x.name.toList == name.toList) Vr.no vs).val
/-- What CellOf answers, the key cut. -/
def cell (cs : List Cl) (name key : ByteArray) : ByteArray := (first (fun x : Cl => (x.name.toList == name.toList) && (x.key.toList == key.toList)) Cl.no cs).val
end St
end Go.Proofs.Ytjbodcakhnkggar
