/- The program's NumOf, at every text. -/
import Derived.Test.YtchieahfellcbaaDoorVOfN
namespace Go.Proofs.YtchieahfellcbaaDoor
open Go.RowKit

set_option maxHeartbeats 400000 in
theorem implNumOf_any (s : ByteArray) (w : World) (hs : s.size ≤ 2097152) :
    Calls Tryd.prog 29 #[.string s] w fun e w' => e = .returned (.int .i64 (Pv.nof s.data.toList : Int)) ∧ w' = w := by
  have C : Hid (∀ w, Calls Tryd.prog 55 #[.string s] w fun e w' => e = .returned (.int .i64 (Pv.nof s.data.toList : Int)) ∧ w' = w) := fun w => numberOf_any s w hs
  have hl := Pv.nof_lt s.data.toList
  generalize Pv.nof s.data.toList = n at *
  go_enter Tryd.func29, Tryd.ntmps29
  go_wp2_with (go_at_call 55; refine (C.out _).mono ?_; rintro e w' ⟨rfl, rfl⟩)
  go_ret
  exact ⟨rfl, rfl⟩
#print axioms implNumOf_any
end Go.Proofs.YtchieahfellcbaaDoor
