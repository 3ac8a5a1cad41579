/- The contract of the library's Clone, laid at this program: the same bytes, in memory of its own. Plain facts, without the program: what a number read at a place of a text is, byte by byte. -/
import Derived.Shelf.LaysM
import Derived.Shelf.Strconv.Clone
import Derived.Test.YtdkenmpdgadcpaaDoorProg
import Derived.WalkKit
import Derived.Test.YtdkenmpdgadcpaaDoorMPMtZaa
namespace Go.Proofs.YtdkenmpdgadcpaaDoor
section PartShelfC
open Go.Shelf
end PartShelfC
section PartPlainB
namespace Pl

/-- pre: the bytes read so far; the third: those that follow; at most f more are read. The number, and how many bytes. -/
def rvF : Nat → List UInt8 → List UInt8 → Option (Nat × Nat)
  | 0, _, _ => none
  | _ + 1, _, [] => none
  | f + 1, pre, b :: r => if b.toNat < 128 then (if (b.toNat = 0 ∧ 0 < pre.length) ∨ 1000000000 < val (pre ++ [b]) then none else some (val (pre ++ [b]), pre.length + 1)) else rvF f (pre ++ [b]) r

theorem rvF_nil (f : Nat) (pre : List UInt8) : rvF f pre [] = none := by cases f <;> rfl
theorem rvF_bad (f : Nat) (pre : List UInt8) (b : UInt8) (r : List UInt8) (h : b.toNat < 128) (h2 : (b.toNat = 0 ∧ 0 < pre.length) ∨ 1000000000 < val (pre ++ [b])) : rvF (f + 1) pre (b :: r) = none := by
  rw [rvF, if_pos h, if_pos h2]
theorem rvF_end (f : Nat) (pre : List UInt8) (b : UInt8) (r : List UInt8) (h : b.toNat < 128) (h2 : ¬ ((b.toNat = 0 ∧ 0 < pre.length) ∨ 1000000000 < val (pre ++ [b]))) : rvF (f + 1) pre (b :: r) = some (val (pre ++ [b]), pre.length + 1) := by
  rw [rvF, if_pos h, if_neg h2]

theorem drop_cons (l : List UInt8) (k : Nat) (h : k < l.length) : l.drop k = l[k] :: l.drop (k + 1) := by
  rw [List.drop_eq_getElem_cons h]

theorem mul_int (b c : Nat) : ((b % 128 * c : Nat) : Int) = (b : Int) % 128 * (c : Int) := by rw [Int.natCast_mul, Int.natCast_emod]; rfl
end Pl
end PartPlainB
end Go.Proofs.YtdkenmpdgadcpaaDoor
