/- Does a text begin with another one? -/
import Derived.Test.YtchieahfellcbaaDoorVCutI
import Derived.Test.YtchieahfellcbaaDoorBig
namespace Go.Proofs.YtchieahfellcbaaDoor
open Go.RowKit
set_option maxHeartbeats 400000 in
set_option maxRecDepth 100000 in
/-- What is cut of a text is a beginning of it. -/
theorem begins_cut (s c : ByteArray) (w : World) (hc : c.size ≤ s.size) (he : s.extract 0 c.size = c) :
    Calls Tryd.prog 32 #[.string c, .string s] w fun e w' => e = .returned (.bool true) ∧ w' = w := by
  have d : decide ((c.size : Int) ≤ (s.size : Int)) = true := by simp; omega
  have hc2 : (c.size : Int) ≤ (s.size : Int) := by omega
  have hq : (c.toList == c.toList) = true := by simp
  go_enter Tryd.func32, Tryd.ntmps32
  go_wp2
  go_ret
  exact ⟨rfl, rfl⟩
#print axioms begins_cut
end Go.Proofs.YtchieahfellcbaaDoor
