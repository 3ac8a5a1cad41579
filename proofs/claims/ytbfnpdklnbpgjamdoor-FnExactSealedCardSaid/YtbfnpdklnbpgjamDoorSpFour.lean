/- What the function of the four bytes of the specification answers. -/
import Derived.Test.YtbfnpdklnbpgjamDoorSealK
namespace Go.Proofs.YtbfnpdklnbpgjamDoor
open Go.RowKit

set_option maxHeartbeats 400000 in
theorem four_any (x : Nat) (w : World) (hx : x < 4294967296) :
    Calls Tryd.prog 28 #[.int .u32 (x : Int)] w fun e w' => e = .returned (.string ⟨(Ps.four x).toArray⟩) ∧ Below w.heap.size w w' := by
  have hst := four_str (w.alloc (.cells #[.int .u8 ((x : Int) / 16777216), .int .u8 ((x : Int) / 65536 % 256), .int .u8 ((x : Int) / 256 % 256), .int .u8 ((x : Int) % 256)] 5)) w.heap.size x 5 hx (heap_new _ _)
  go_enter Tryd.func28, Tryd.ntmps28
  go_wp2
  go_ret
  exact ⟨rfl, (Below.refl _ _).alloc (Nat.le_refl _) _⟩
end Go.Proofs.YtbfnpdklnbpgjamDoor
