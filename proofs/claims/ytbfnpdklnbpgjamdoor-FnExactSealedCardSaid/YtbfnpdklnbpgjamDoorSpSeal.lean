/- What Sealed of the specification answers, at every text. -/
import Derived.Test.YtbfnpdklnbpgjamDoorSpFour
import Derived.Test.YtbfnpdklnbpgjamDoorSpSum
namespace Go.Proofs.YtbfnpdklnbpgjamDoor
open Go.RowKit

set_option maxHeartbeats 400000 in
theorem specSealed_any (s : ByteArray) (w : World) (hs : s.size ≤ 1048576) :
    Calls Tryd.prog 19 #[.string s] w fun e w' => e = .returned (sealRes s) ∧ Below w.heap.size w w' := by
  by_cases h : 20000 < s.size
  · rw [sealRes_no s h]
    go_enter Tryd.func19, Tryd.ntmps19
    go_wp2
    go_ret2
    exact ⟨rfl, Below.refl _ _⟩
  · rw [sealRes_yes s (by omega)]
    obtain ⟨x, hx⟩ : ∃ x, x = Ps.sm 4294967295 s.data.toList := ⟨_, rfl⟩
    have hxl : x < 4294967296 := by rw [hx]; exact Ps.sum_lt s
    have C1 : Hid (∀ w, Calls Tryd.prog 17 #[.string s] w fun e w' => e = .returned (.int .u32 (x : Int)) ∧ w' = w) := fun w => by rw [hx]; exact specSumOf_any s w hs
    rw [← hx]
    clear hx
    have hfl : (Ps.four x).length = 4 := rfl
    go_enter Tryd.func19, Tryd.ntmps19
    go_wp2_with (first | (go_at_call 17; refine (C1.out _).mono ?_; rintro e w' ⟨rfl, rfl⟩) | (go_at_call 28; refine (four_any x _ hxl).mono ?_; rintro e w' ⟨rfl, hb⟩))
    go_ret2
    exact ⟨by rw [← Ps.app_str]; rfl, hb⟩
end Go.Proofs.YtbfnpdklnbpgjamDoor
