/- Are two stores the same: the library's Equal at Vars and at Cells, the program's SameStore. -/
import Derived.Test.YtjohhledpjmffaaZac
import Derived.WalkLawsBesides
import Derived.Laws.StructEq
namespace Go.Proofs.Ytjohhledpjmffaa
open Go.RowKit

namespace St
theorem all_yes {n : Nat} {p : Nat → Bool} (h : ∀ q, q < n → p q = true) : (List.range n).all p = true := List.all_eq_true.2 fun q hq => h q (List.mem_range.1 hq)
theorem all_no {n k : Nat} {p : Nat → Bool} (hk : k < n) (h : p k = false) : (List.range n).all p = false := List.all_eq_false.2 ⟨k, List.mem_range.2 hk, by rw [h]; simp⟩
def eqVr (x y : Vr) : Bool := (x.name.toList == y.name.toList) && (x.val.toList == y.val.toList)
def eqCl (x y : Cl) : Bool := (x.name.toList == y.name.toList) && ((x.key.toList == y.key.toList) && (x.val.toList == y.val.toList))
def eqVrs (a b : List Vr) : Bool := decide (a.length = b.length) && (List.range a.length).all fun i => eqVr (a.getD i Vr.no) (b.getD i Vr.no)
def eqCls (a b : List Cl) : Bool := decide (a.length = b.length) && (List.range a.length).all fun i => eqCl (a.getD i Cl.no) (b.getD i Cl.no)
/-- Are two stores the same. -/
def same (a b : List Vr) (c d : List Cl) (o p : ByteArray) : Bool := eqVrs a b && (eqCls c d && (o.toList == p.toList))
end St

/-- The model's '!=' at two of them. -/
theorem neqVr (x y : Vr) (w : World) : (binOp .neq 35 (.agg #[.string x.name, .string x.val]) (.agg #[.string y.name, .string y.val])).run Try.prog w = .ok (.bool (!St.eqVr x y)) w := by
  have u9 := Try.underlying9
  have a9 := Try.isAgg9
  have z9 := Try.sizeOf9
  have hS : Try.prog.underlying 35 = some (.struct (Try.prog.fieldsOf 35)) := by kernel_rfl
  have hp : Try.prog.stoodInHeld 35 = false := by kernel_rfl
  rw [run_neq_struct, show (10000 : Nat) = 9999 + 1 from rfl, run_equalIn_agg w 9999 35 _ _ hS hp]
  simp only [Program.fieldsOf, Try.underlying35]
  unfold St.eqVr
  cases h0 : (x.name.toList == y.name.toList) <;> cases h1 : (x.val.toList == y.val.toList)
  all_goals
    go_simp
theorem guardVr (op : BinOp) (a b : Operand) (xs ys : Array Value) (w : World) : (eqGuard op 35 a b (.agg xs) (.agg ys)).run Try.prog w = .ok () w := run_eqGuard_agg w op 35 a b xs ys (by kernel_rfl)

/-- The model's '!=' at two of them. -/
theorem neqCl (x y : Cl) (w : World) : (binOp .neq 41 (.agg #[.string x.name, .string x.key, .string x.val]) (.agg #[.string y.name, .string y.key, .string y.val])).run Try.prog w = .ok (.bool (!St.eqCl x y)) w := by
  have u9 := Try.underlying9
  have a9 := Try.isAgg9
  have z9 := Try.sizeOf9
  have hS : Try.prog.underlying 41 = some (.struct (Try.prog.fieldsOf 41)) := by kernel_rfl
  have hp : Try.prog.stoodInHeld 41 = false := by kernel_rfl
  rw [run_neq_struct, show (10000 : Nat) = 9999 + 1 from rfl, run_equalIn_agg w 9999 41 _ _ hS hp]
  simp only [Program.fieldsOf, Try.underlying41]
  unfold St.eqCl
  cases h0 : (x.name.toList == y.name.toList) <;> cases h1 : (x.key.toList == y.key.toList) <;> cases h2 : (x.val.toList == y.val.toList)
  all_goals
    go_simp
theorem guardCl (op : BinOp) (a b : Operand) (xs ys : Array Value) (w : World) : (eqGuard op 41 a b (.agg xs) (.agg ys)).run Try.prog w = .ok () w := run_eqGuard_agg w op 41 a b xs ys (by kernel_rfl)

end Go.Proofs.Ytjohhledpjmffaa
