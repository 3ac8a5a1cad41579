/- Plain facts, without the program: what each figure of a text is worth, which is its place among the figures. Plain facts, without the program: a number in decimal figures, and when a text of figures is that of its number. -/
import Derived.Test.YthnmopldpgdenaaMPTcZaj
namespace Go.Proofs.Ythnmopldpgdenaa
section PartPlainD
namespace Pl

end Pl
end PartPlainD
section PartPlainF
namespace Pl

/-- The byte of a decimal figure. -/
def ch (d : Nat) : UInt8 := UInt8.ofNat (48 + d)
theorem ch_nat (d : Nat) (h : d < 200) : (ch d).toNat = 48 + d := small _ (by omega)

/-- The figures of n, none of nought; at most f of them. -/
def dg : Nat → Nat → List UInt8
  | 0, _ => []
  | f + 1, n => if n = 0 then [] else dg f (n / 10) ++ [ch (n % 10)]
theorem dg_zero (f : Nat) : dg f 0 = [] := by cases f <;> rfl
theorem dg_more (f n : Nat) (h : n ≠ 0) : dg (f + 1) n = dg f (n / 10) ++ [ch (n % 10)] := by rw [dg, if_neg h]

end Pl
end PartPlainF
end Go.Proofs.Ythnmopldpgdenaa
