/- A store in bytes: the specification of StoreText. -/
import Derived.Test.YtbaoadfnmicijaaMPMsOZap
import Derived.Test.YtbaoadfnmicijaaMPMsOOkD
import Derived.Test.YtbaoadfnmicijaaMPMsOEqB
import Derived.Deep.RegionHeld3
namespace Go.Proofs.Ytbaoadfnmicijaa
open Go.RowKit

namespace St
theorem nm_le8 {s : ByteArray} (h : Cd.nm s.data.toList = true) : s.size ≤ 8 := by
  unfold Cd.nm at h
  simp only [Bool.and_eq_true, decide_eq_true_eq] at h
  have h2 : s.data.toList.length = s.size := by simp
  omega
/-- What a right store holds. -/
theorem ok_sizes {vs : List Vr} {cs : List Cl} {o : ByteArray} (h : ok vs cs o = true) : vs.length ≤ 60 ∧ cs.length ≤ 2000 ∧ o.size ≤ 3000 ∧
    (∀ i, i < vs.length → (vs.getD i Vr.no).name.size ≤ 8 ∧ (vs.getD i Vr.no).val.size ≤ 40) ∧ (∀ i, i < cs.length → (cs.getD i Cl.no).name.size ≤ 8 ∧ (cs.getD i Cl.no).key.size ≤ 40 ∧ (cs.getD i Cl.no).val.size ≤ 40) := by
  unfold ok at h
  simp only [Bool.and_eq_true, decide_eq_true_eq, List.all_eq_true, List.mem_range] at h
  obtain ⟨⟨h1, h2, h3⟩, -, h4, h5⟩ := h
  refine ⟨h1, h2, h3, fun i hi => ?_, fun i hi => ?_⟩
  · have := h4 i hi
    simp only [goodV, Bool.and_eq_true, decide_eq_true_eq] at this
    exact ⟨nm_le8 this.1, this.2⟩
  · have := h5 i hi
    simp only [goodC, Bool.and_eq_true, decide_eq_true_eq] at this
    exact ⟨nm_le8 this.1, this.2.1, this.2.2⟩
end St

end Go.Proofs.Ytbaoadfnmicijaa
