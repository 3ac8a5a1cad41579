/- Small plain facts for sums. -/
import Derived.Test.YtbfnpdklnbpgjaaDoorPlainS
import Derived.WalkKit
namespace Go.Proofs.YtbfnpdklnbpgjaaDoor
open Go.RowKit

theorem Ps.take_snoc (s : ByteArray) (k : Nat) (h : k < s.size) : s.data.toList.take (k + 1) = s.data.toList.take k ++ [s[k]] := by
  rw [List.take_succ_eq_append_getElem (by simpa using h)]; rfl

theorem Ps.take_all (s : ByteArray) (k : Nat) (h : s.size ≤ k) : s.data.toList.take k = s.data.toList := List.take_of_length_le (by simpa using h)

theorem Ps.st_odd (x : Nat) (h : x % 2 = 1) : Ps.st x = x / 2 ^^^ 3558460437 := by unfold Ps.st; rw [if_pos h]

theorem Ps.st_even (x : Nat) (h : x % 2 = 0) : Ps.st x = x / 2 := by unfold Ps.st; rw [if_neg (by omega)]

theorem Ps.stN_snoc (k x : Nat) : Ps.st (Ps.stN k x) = Ps.stN (k + 1) x := by rw [Ps.stN_add]; rfl
end Go.Proofs.YtbfnpdklnbpgjaaDoor
