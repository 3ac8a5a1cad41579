/- Plain facts, without the program: the bytes that a number is written as (least seven bits first), and that a text of such bytes is the shortest one just when its last byte is no needless nought. -/
namespace Go.Proofs.Ytljnffanajcifaa
namespace Pl

/-- The byte of n's least seven bits, marked as one that goes on. -/
def hb (n : Nat) : UInt8 := UInt8.ofNat (n % 128 + 128)

/-- The number of a text of bytes, seven bits of each, the least first. -/
def val : List UInt8 → Nat
  | [] => 0
  | b :: l => b.toNat % 128 + 128 * val l

end Pl
end Go.Proofs.Ytljnffanajcifaa
