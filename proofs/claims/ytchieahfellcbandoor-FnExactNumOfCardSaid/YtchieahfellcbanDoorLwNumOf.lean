/- At every text, NumOf of the program and of the specification answer the same. -/
import Derived.Test.YtchieahfellcbanDoorVOfI
namespace Go.Proofs.YtchieahfellcbanDoor
open Go.RowKit
set_option maxHeartbeats 400000 in
theorem lawNumOf (s : ByteArray) (w : World) :
    Calls Tryd.prog 4 #[.string s] w fun e w' => e = .returned (.bool true) ∧ Below w.heap.size w w' := by
  by_cases hbig : (1048576 : Int) < (s.size : Int)
  · go_enter Tryd.func4, Tryd.ntmps4
    go_wp2
    go_ret
    exact ⟨rfl, Below.refl _ _⟩
  have hsm : s.size ≤ 1048576 := by omega
  clear hbig
  have C1 : Hid (∀ w, Calls Tryd.prog 9 #[.string s] w fun e w' => e = .returned (.int .i64 (Pv.nof s.data.toList : Int)) ∧ w' = w) := fun w => specNumOf_any s w (by omega)
  have C2 : Hid (∀ w, Calls Tryd.prog 10 #[.string s] w fun e w' => e = .returned (.int .i64 (Pv.nof s.data.toList : Int)) ∧ w' = w) := fun w => implNumOf_any s w (by omega)
  have hl := Pv.nof_lt s.data.toList
  generalize Pv.nof s.data.toList = n at *
  go_enter Tryd.func4, Tryd.ntmps4
  go_wp2_with (first | (go_at_call 9; refine (C1.out _).mono ?_; rintro e w' ⟨rfl, rfl⟩) | (go_at_call 10; refine (C2.out _).mono ?_; rintro e w' ⟨rfl, rfl⟩))
  go_ret
  exact ⟨rfl, Below.refl _ _⟩
#print axioms lawNumOf
end Go.Proofs.YtchieahfellcbanDoor
