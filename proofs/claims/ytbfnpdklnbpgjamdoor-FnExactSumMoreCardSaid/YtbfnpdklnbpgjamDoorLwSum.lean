/- The laws on SumMore and SumOf answer true, wherever the program's table is as its text lays it. -/
import Derived.Test.YtbfnpdklnbpgjamDoorSpSum
import Derived.Test.YtbfnpdklnbpgjamDoorImSum
namespace Go.Proofs.YtbfnpdklnbpgjamDoor
open Go.RowKit

set_option maxHeartbeats 400000 in
theorem lawSumMore (n : Nat) (s : ByteArray) (w : World) (hn : n < 4294967296) (ht : Tabd w) :
    Calls Tryd.prog 5 #[.int .u32 (n : Int), .string s] w fun e w' => e = .returned (.bool true) ∧ Below w.heap.size w w' := by
  have HT : Hid (Tabd w) := ht
  clear ht
  by_cases hbig : (1048576 : Int) < (s.size : Int)
  · go_enter Tryd.func5, Tryd.ntmps5
    go_wp2
    go_ret
    exact ⟨rfl, Below.refl _ _⟩
  have hsm : s.size ≤ 1048576 := by omega
  clear hbig
  go_enter Tryd.func5, Tryd.ntmps5
  go_wp2_with (first | (go_at_call 15; refine (specSumMore_any n s _ hn hsm).mono ?_; rintro e w1 ⟨rfl, rfl⟩) | (go_at_call 16; refine (implSumMore_any n s _ hn hsm HT.out).mono ?_; rintro e w2 ⟨rfl, rfl⟩))
  go_ret
  exact ⟨rfl, Below.refl _ _⟩

set_option maxHeartbeats 400000 in
theorem lawSumOf (s : ByteArray) (w : World) (ht : Tabd w) :
    Calls Tryd.prog 6 #[.string s] w fun e w' => e = .returned (.bool true) ∧ Below w.heap.size w w' := by
  have HT : Hid (Tabd w) := ht
  clear ht
  by_cases hbig : (1048576 : Int) < (s.size : Int)
  · go_enter Tryd.func6, Tryd.ntmps6
    go_wp2
    go_ret
    exact ⟨rfl, Below.refl _ _⟩
  have hsm : s.size ≤ 1048576 := by omega
  clear hbig
  go_enter Tryd.func6, Tryd.ntmps6
  go_wp2_with (first | (go_at_call 17; refine (specSumOf_any s _ hsm).mono ?_; rintro e w1 ⟨rfl, rfl⟩) | (go_at_call 18; refine (implSumOf_any s _ hsm HT.out).mono ?_; rintro e w2 ⟨rfl, rfl⟩))
  go_ret
  exact ⟨rfl, Below.refl _ _⟩
end Go.Proofs.YtbfnpdklnbpgjamDoor
