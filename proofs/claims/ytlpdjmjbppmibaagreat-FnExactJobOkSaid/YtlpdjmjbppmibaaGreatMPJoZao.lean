/- Plain facts, without the program: what each figure of a text is worth, which is its place among the figures. Plain facts, without the program: what a figure of sixteen is worth, and bytes out of pairs of such. Plain facts, without the program: a number in decimal figures, and when a text of figures is that of its number. -/
import Derived.Test.YtlpdjmjbppmibaaGreatMPJoZan
namespace Go.Proofs.YtlpdjmjbppmibaaGreat
section PartPlainD
namespace Pl

theorem drop_at (s : ByteArray) (k : Nat) (h : k < s.size) : s.data.toList.drop k = s[k] :: s.data.toList.drop (k + 1) := by
  rw [List.drop_eq_getElem_cons (by simpa using h)]; rfl
end Pl
end PartPlainD
section PartPlainE
namespace Pl

end Pl
end PartPlainE
section PartPlainF
namespace Pl

end Pl
end PartPlainF
end Go.Proofs.YtlpdjmjbppmibaaGreat
