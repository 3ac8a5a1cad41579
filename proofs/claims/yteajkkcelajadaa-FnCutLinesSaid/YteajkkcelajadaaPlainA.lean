/- Plain facts, without the program: the bytes that a number is written as (least seven bits first), and that a text of such bytes is the shortest one just when its last byte is no needless nought. -/
namespace Go.Proofs.Yteajkkcelajadaa
namespace Pl

/-- The byte of n's least seven bits, marked as one that goes on. -/
def hb (n : Nat) : UInt8 := UInt8.ofNat (n % 128 + 128)

end Pl
end Go.Proofs.Yteajkkcelajadaa
