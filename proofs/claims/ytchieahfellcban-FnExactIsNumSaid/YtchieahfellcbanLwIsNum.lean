/- At every text, IsNum of the program and of the specification answer the same. -/
import Derived.Test.YtchieahfellcbanVNum
namespace Go.Proofs.Ytchieahfellcban
open Go.RowKit
set_option maxHeartbeats 400000 in
theorem lawIsNum (s : ByteArray) (w : World) :
    Calls Try.prog 4 #[.string s] w fun e w' => e = .returned (.bool true) ∧ Below w.heap.size w w' := by
  by_cases hbig : (1048576 : Int) < (s.size : Int)
  · go_enter Try.func4, Try.ntmps4
    go_wp2
    go_ret
    exact ⟨rfl, Below.refl _ _⟩
  have hsm : s.size ≤ 1048576 := by omega
  clear hbig
  have C1 : Hid (∀ w, Calls Try.prog 7 #[.string s] w fun e w' => e = .returned (.bool (Pv.isn s.data.toList)) ∧ w' = w) := fun w => specIsNum_any s w (by omega)
  have C2 : Hid (∀ w, Calls Try.prog 8 #[.string s] w fun e w' => e = .returned (.bool (Pv.isn s.data.toList)) ∧ w' = w) := fun w => implIsNum_any s w (by omega)
  generalize Pv.isn s.data.toList = b at *
  cases b
  all_goals
    go_enter Try.func4, Try.ntmps4
    go_wp2_with (first | (go_at_call 7; refine (C1.out _).mono ?_; rintro e w' ⟨rfl, rfl⟩) | (go_at_call 8; refine (C2.out _).mono ?_; rintro e w' ⟨rfl, rfl⟩))
    go_ret
    exact ⟨rfl, Below.refl _ _⟩
#print axioms lawIsNum
end Go.Proofs.Ytchieahfellcban
