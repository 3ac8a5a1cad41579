/- Plain facts, without the program: the sixteen figures, a text in figures, and back. Plain facts, without the program: what each figure of a text is worth, which is its place among the figures. -/
import Derived.Test.YtdkenmpdgadcpaaDoorMPRmZaa
namespace Go.Proofs.YtdkenmpdgadcpaaDoor
section PartPlainC
namespace Pl

theorem take_snoc (s : ByteArray) (k : Nat) (h : k < s.size) : s.data.toList.take (k + 1) = s.data.toList.take k ++ [s[k]] := by
  rw [List.take_succ_eq_append_getElem (by simpa using h)]; rfl
theorem take_all (s : ByteArray) (k : Nat) (h : s.size ≤ k) : s.data.toList.take k = s.data.toList := List.take_of_length_le (by simpa using h)
end Pl
end PartPlainC
section PartPlainD
namespace Pl

theorem drop_at (s : ByteArray) (k : Nat) (h : k < s.size) : s.data.toList.drop k = s[k] :: s.data.toList.drop (k + 1) := by
  rw [List.drop_eq_getElem_cons (by simpa using h)]; rfl
end Pl
end PartPlainD
end Go.Proofs.YtdkenmpdgadcpaaDoor
