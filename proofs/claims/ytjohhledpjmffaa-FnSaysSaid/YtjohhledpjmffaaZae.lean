/- What the program's Cut answers, at every text: its first forty bytes, in memory of its own. What the specification's Cut answers, at every text. -/
import Derived.Test.YtjohhledpjmffaaProg
import Derived.Test.YtjohhledpjmffaaZad
import Derived.WalkKit
import Derived.WalkSpells
import Derived.WalkLawsBesides
import Derived.Handy
import Derived.Lib.Strings
namespace Go.Proofs.Ytjohhledpjmffaa
section PartVCutI
open Go.RowKit

theorem take_str (s : ByteArray) (n : Nat) (_h : n ≤ s.size) : s.extract 0 n = ⟨(s.data.toList.take n).toArray⟩ := by
  rw [Lib.extract_eq s 0 n]
  simp
end PartVCutI
section PartVCut
open Go.RowKit

set_option maxHeartbeats 400000 in
theorem specCut_any (s : ByteArray) (w : World) :
    Calls Try.prog 45 #[.string s] w fun e w' => e = .returned (.string ⟨(Pv.cut s.data.toList).toArray⟩) ∧ w' = w := by
  have el : s.data.toList.length = s.size := by simp
  by_cases h : 40 < s.size
  · have HE : Hid (s.extract 0 40 = ⟨(Pv.cut s.data.toList).toArray⟩) := take_str s 40 (by omega)
    have d : decide ((40 : Int) < (s.size : Int)) = true := by simp; omega
    clear el
    go_enter Try.func45, Try.ntmps45
    go_wp2
    go_ret
    exact ⟨by rw [← HE.out]; rfl, rfl⟩
  · have HE : Hid (s = ⟨(Pv.cut s.data.toList).toArray⟩) := by
      show _ = _
      rw [Pv.cut_short _ (by omega)]
    have d : decide ((40 : Int) < (s.size : Int)) = false := by simp; omega
    clear el
    go_enter Try.func45, Try.ntmps45
    go_wp2
    go_ret
    exact ⟨by rw [← HE.out]; rfl, rfl⟩

end PartVCut
end Go.Proofs.Ytjohhledpjmffaa
