/- The law on Unsealed answers true, wherever the program's table is as its text lays it. -/
import Derived.Test.YtbfnpdklnbpgjanDoorSpUns
import Derived.Test.YtbfnpdklnbpgjanDoorImUns
namespace Go.Proofs.YtbfnpdklnbpgjanDoor
open Go.RowKit

set_option maxHeartbeats 400000 in
theorem lawUnsealed (s : ByteArray) (w : World) (ht : Tabd w) :
    Calls Tryd.prog 3 #[.string s] w fun e w' => e = .returned (.bool true) ∧ Below w.heap.size w w' := by
  by_cases hbig : (1048576 : Int) < (s.size : Int)
  · clear ht
    go_enter Tryd.func3, Tryd.ntmps3
    go_wp2
    go_ret
    exact ⟨rfl, Below.refl _ _⟩
  have hsm : s.size ≤ 1048576 := by omega
  clear hbig
  have hv : ∃ t b, unsRes s = .tuple #[.string t, .bool b] := by unfold unsRes; split <;> exact ⟨_, _, rfl⟩
  obtain ⟨t, b, hv⟩ := hv
  have c1 := fun w => specUnsealed_any s w hsm
  have c2 := fun w1 (hb : Below w.heap.size w w1) => implUnsealed_any s w1 hsm (ht.keep hb)
  rw [hv] at c1 c2
  have C1 := (show Hid _ from c1)
  have C2 := (show Hid _ from c2)
  clear c1 c2 hv ht
  go_enter Tryd.func3, Tryd.ntmps3
  go_wp2_with (first | (go_at_call 4; refine (C1.out _).mono ?_; rintro e w1 ⟨rfl, hb1⟩) | (go_at_call 5; refine (C2.out _ hb1).mono ?_; rintro e w2 ⟨rfl, hb2⟩))
  go_ret
  exact ⟨rfl, hb1.trans (hb2.mono hb1.size)⟩
end Go.Proofs.YtbfnpdklnbpgjanDoor
