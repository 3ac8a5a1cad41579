/- The law on Sealed answers true, wherever the program's table is as its text lays it. -/
import Derived.Test.YtbfnpdklnbpgjamDoorSpSeal
import Derived.Test.YtbfnpdklnbpgjamDoorImSeal
namespace Go.Proofs.YtbfnpdklnbpgjamDoor
open Go.RowKit

set_option maxHeartbeats 400000 in
theorem lawSealed (s : ByteArray) (w : World) (ht : Tabd w) :
    Calls Tryd.prog 7 #[.string s] w fun e w' => e = .returned (.bool true) ∧ Below w.heap.size w w' := by
  by_cases hbig : (1048576 : Int) < (s.size : Int)
  · clear ht
    go_enter Tryd.func7, Tryd.ntmps7
    go_wp2
    go_ret
    exact ⟨rfl, Below.refl _ _⟩
  have hsm : s.size ≤ 1048576 := by omega
  clear hbig
  have hv : ∃ t b, sealRes s = .tuple #[.string t, .bool b] := by unfold sealRes; split <;> exact ⟨_, _, rfl⟩
  obtain ⟨t, b, hv⟩ := hv
  have c1 := fun w => specSealed_any s w hsm
  have c2 := fun w1 (hb : Below w.heap.size w w1) => implSealed_any s w1 hsm (ht.keep hb)
  rw [hv] at c1 c2
  have C1 := (show Hid _ from c1)
  have C2 := (show Hid _ from c2)
  clear c1 c2 hv ht
  go_enter Tryd.func7, Tryd.ntmps7
  go_wp2_with (first | (go_at_call 19; refine (C1.out _).mono ?_; rintro e w1 ⟨rfl, hb1⟩) | (go_at_call 20; refine (C2.out _ hb1).mono ?_; rintro e w2 ⟨rfl, hb2⟩))
  go_ret
  exact ⟨rfl, hb1.trans (hb2.mono hb1.size)⟩
end Go.Proofs.YtbfnpdklnbpgjamDoor
