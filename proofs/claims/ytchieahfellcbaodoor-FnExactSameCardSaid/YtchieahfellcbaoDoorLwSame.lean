/- At every two texts, Same of the program and of the specification answer the same. -/
import Derived.Test.YtchieahfellcbaoDoorVSm
namespace Go.Proofs.YtchieahfellcbaoDoor
open Go.RowKit
set_option maxHeartbeats 400000 in
theorem lawSame (s t : ByteArray) (w : World) :
    Calls Tryd.prog 3 #[.string s, .string t] w fun e w' => e = .returned (.bool true) ∧ Below w.heap.size w w' := by
  by_cases hbig : (1048576 : Int) < (s.size : Int)
  · go_enter Tryd.func3, Tryd.ntmps3
    go_wp2
    go_ret
    exact ⟨rfl, Below.refl _ _⟩
  by_cases hbig2 : (1048576 : Int) < (t.size : Int)
  · go_enter Tryd.func3, Tryd.ntmps3
    go_wp2
    go_ret
    exact ⟨rfl, Below.refl _ _⟩
  have hsm : s.size ≤ 1048576 := by omega
  have htm : t.size ≤ 1048576 := by omega
  clear hbig hbig2
  have C1 : Hid (∀ w, Calls Tryd.prog 4 #[.string s, .string t] w fun e w' => e = .returned (.bool (smB s t)) ∧ w' = w) := fun w => specSame_any s t w (by omega) (by omega)
  have C2 : Hid (∀ w, Calls Tryd.prog 5 #[.string s, .string t] w fun e w' => e = .returned (.bool (smB s t)) ∧ Below w.heap.size w w') := fun w => implSame_any s t w (by omega) (by omega)
  generalize smB s t = b at *
  cases b
  all_goals
    go_enter Tryd.func3, Tryd.ntmps3
    go_wp2_with (first | (go_at_call 4; refine (C1.out _).mono ?_; rintro e w' ⟨rfl, rfl⟩) | (go_at_call 5; refine (C2.out _).mono ?_; rintro e w' ⟨rfl, hb⟩))
    go_ret
    exact ⟨rfl, hb⟩
#print axioms lawSame
end Go.Proofs.YtchieahfellcbaoDoor
