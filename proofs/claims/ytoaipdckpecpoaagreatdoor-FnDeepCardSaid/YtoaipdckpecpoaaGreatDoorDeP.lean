/- What is read of programs of many brackets: reckoned. -/
import Derived.Test.YtoaipdckpecpoaaGreatDoorRsL
namespace Go.Proofs.YtoaipdckpecpoaaGreatDoor
namespace De
def op (n : Nat) : List UInt8 := List.replicate n 40
def cl (n : Nat) : List UInt8 := List.replicate n 41
/-- All closed. -/
def whole (n : Nat) : List UInt8 := [123, 32, 112, 114, 105, 110, 116, 32] ++ op n ++ [49] ++ cl n ++ [32, 125]
/-- None closed. -/
def half (n : Nat) : List UInt8 := [123, 32, 112, 114, 105, 110, 116, 32] ++ op n ++ [49, 32, 125]
def len? : Option (List Pi × List Pg.Rl) → Nat
  | none => 0
  | some q => q.1.length
def chk (n : Nat) : Bool := ((Ip.read (whole n)).isSome == decide (n ≤ 13)) && ((Pr.read (whole n)).isSome == decide (n ≤ 13)) && ((Ip.read (half n)).isSome == decide (n = 0)) && (decide (13 < n) || decide (len? (Ip.read (whole n)) = 3))
set_option maxRecDepth 100000 in
theorem chk_all : (List.range 40).all chk = true := by decide +kernel
end De
end Go.Proofs.YtoaipdckpecpoaaGreatDoor
