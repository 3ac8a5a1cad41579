/- At every text, Cut of the program and of the specification answer the same. -/
import Derived.Test.YtchieahfellcbanVCut
namespace Go.Proofs.Ytchieahfellcban
open Go.RowKit
set_option maxHeartbeats 400000 in
theorem lawCut (s : ByteArray) (w : World) :
    Calls Try.prog 3 #[.string s] w fun e w' => e = .returned (.bool true) ∧ Below w.heap.size w w' := by
  by_cases hbig : (1048576 : Int) < (s.size : Int)
  · go_enter Try.func3, Try.ntmps3
    go_wp2
    go_ret
    exact ⟨rfl, Below.refl _ _⟩
  have hsm : s.size ≤ 1048576 := by omega
  clear hbig
  have C1 : Hid (∀ w, Calls Try.prog 5 #[.string s] w fun e w' => e = .returned (.string ⟨(Pv.cut s.data.toList).toArray⟩) ∧ w' = w) := fun w => specCut_any s w
  have C2 : Hid (∀ w, Calls Try.prog 6 #[.string s] w fun e w' => e = .returned (.string ⟨(Pv.cut s.data.toList).toArray⟩) ∧ Below w.heap.size w w') := fun w => implCut_any s w (by omega)
  generalize (⟨(Pv.cut s.data.toList).toArray⟩ : ByteArray) = t at *
  go_enter Try.func3, Try.ntmps3
  go_wp2_with (first | (go_at_call 5; refine (C1.out _).mono ?_; rintro e w' ⟨rfl, rfl⟩) | (go_at_call 6; refine (C2.out _).mono ?_; rintro e w1 ⟨rfl, hb⟩))
  go_ret
  exact ⟨rfl, hb⟩
#print axioms lawCut
end Go.Proofs.Ytchieahfellcban
