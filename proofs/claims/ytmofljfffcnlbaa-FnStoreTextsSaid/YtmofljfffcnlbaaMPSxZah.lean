/- Plain facts, without the program: the sixteen figures, a text in figures, and back. Plain facts, without the program: what each figure of a text is worth, which is its place among the figures. Plain facts, without the program: a number in decimal figures, and when a text of figures is that of its number. The law's own marks: the text of a mark. -/
import Derived.Test.YtmofljfffcnlbaaMPSxZag
namespace Go.Proofs.Ytmofljfffcnlbaa
section PartPlainC
namespace Pl

theorem take_all (s : ByteArray) (k : Nat) (h : s.size ≤ k) : s.data.toList.take k = s.data.toList := List.take_of_length_le (by simpa using h)
end Pl
end PartPlainC
section PartPlainD
namespace Pl

theorem drop_at (s : ByteArray) (k : Nat) (h : k < s.size) : s.data.toList.drop k = s[k] :: s.data.toList.drop (k + 1) := by
  rw [List.drop_eq_getElem_cons (by simpa using h)]; rfl
end Pl
end PartPlainD
section PartPlainF
namespace Pl

/-- The byte of a decimal figure. -/
def ch (d : Nat) : UInt8 := UInt8.ofNat (48 + d)
/-- The figures of n, none of nought; at most f of them. -/
def dg : Nat → Nat → List UInt8
  | 0, _ => []
  | f + 1, n => if n = 0 then [] else dg f (n / 10) ++ [ch (n % 10)]
/-- The text of a list of worths. -/
def txt (vs : List UInt8) : List UInt8 := vs.map fun v => ch v.toNat

end Pl
end PartPlainF
section PartMkT
open Go.RowKit

/-- The mark of k. -/
def mk (k : Nat) : List UInt8 := 109 :: Pl.dg 20 k

end PartMkT
end Go.Proofs.Ytmofljfffcnlbaa
