/- At every two texts, Less of the program and of the specification answer the same. -/
import Derived.Test.YtchieahfellcbanDoorVLs
namespace Go.Proofs.YtchieahfellcbanDoor
open Go.RowKit
set_option maxHeartbeats 400000 in
theorem lawLess (s t : ByteArray) (w : World) :
    Calls Tryd.prog 6 #[.string s, .string t] w fun e w' => e = .returned (.bool true) ∧ Below w.heap.size w w' := by
  by_cases hbig : (1048576 : Int) < (s.size : Int)
  · go_enter Tryd.func6, Tryd.ntmps6
    go_wp2
    go_ret
    exact ⟨rfl, Below.refl _ _⟩
  by_cases hbig2 : (1048576 : Int) < (t.size : Int)
  · go_enter Tryd.func6, Tryd.ntmps6
    go_wp2
    go_ret
    exact ⟨rfl, Below.refl _ _⟩
  have hsm : s.size ≤ 1048576 := by omega
  have htm : t.size ≤ 1048576 := by omega
  clear hbig hbig2
  have C1 : Hid (∀ w, Calls Tryd.prog 13 #[.string s, .string t] w fun e w' => e = .returned (.bool (lsB s t)) ∧ w' = w) := fun w => specLess_any s t w (by omega) (by omega)
  have C2 : Hid (∀ w, Calls Tryd.prog 14 #[.string s, .string t] w fun e w' => e = .returned (.bool (lsB s t)) ∧ Below w.heap.size w w') := fun w => implLess_any s t w (by omega) (by omega)
  generalize lsB s t = b at *
  cases b
  all_goals
    go_enter Tryd.func6, Tryd.ntmps6
    go_wp2_with (first | (go_at_call 13; refine (C1.out _).mono ?_; rintro e w' ⟨rfl, rfl⟩) | (go_at_call 14; refine (C2.out _).mono ?_; rintro e w' ⟨rfl, hb⟩))
    go_ret
    exact ⟨rfl, hb⟩
#print axioms lawLess
end Go.Proofs.YtchieahfellcbanDoor
