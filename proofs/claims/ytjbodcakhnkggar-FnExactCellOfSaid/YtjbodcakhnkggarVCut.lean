/- What the specification's Cut answers, at every text. -/
import Derived.Test.YtjbodcakhnkggarVCutI
namespace Go.Proofs.Ytjbodcakhnkggar
open Go.RowKit

set_option maxHeartbeats 400000 in
theorem specCut_any (s : ByteArray) (w : World) :
    Calls Try.prog 22 #[.string s] w fun e w' => e = .returned (.string ⟨(Pv.cut s.data.toList).toArray⟩) ∧ w' = w := by
  have el : s.data.toList.length = s.size := by simp
  by_cases h : 40 < s.size
  · have HE : Hid (s.extract 0 40 = ⟨(Pv.cut s.data.toList).toArray⟩) := take_str s 40 (by omega)
    have d : decide ((40 : Int) < (s.size : Int)) = true := by simp; omega
    clear el
    go_enter Try.func22, Try.ntmps22
    go_wp2
    go_ret
    exact ⟨by rw [← HE.out]; rfl, rfl⟩
  · have HE : Hid (s = ⟨(Pv.cut s.data.toList).toArray⟩) := by
      show _ = _
      rw [Pv.cut_short _ (by omega)]
    have d : decide ((40 : Int) < (s.size : Int)) = false := by simp; omega
    clear el
    go_enter Try.func22, Try.ntmps22
    go_wp2
    go_ret
    exact ⟨by rw [← HE.out]; rfl, rfl⟩

#print axioms specCut_any
end Go.Proofs.Ytjbodcakhnkggar
