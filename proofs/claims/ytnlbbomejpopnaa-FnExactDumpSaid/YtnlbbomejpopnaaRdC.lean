/- Is it a sign that stands for something else, in a pattern? -/
import Derived.Test.YtnlbbomejpopnaaRdA
namespace Go.Proofs.Ytnlbbomejpopnaa
open Go.RowKit

def signs : List UInt8 := [42, 43, 63, 124, 40, 41, 91, 93, 46, 94, 36, 92]
theorem special_yes (c : UInt8) (j : Nat) (h : j < 12) (e : (signs.getD j 0).toNat = c.toNat) : Pp.special c = true := by
  have e2 : signs.getD j 0 = c := UInt8.toNat_inj.1 e
  show signs.contains c = true
  rw [← e2, List.getD_eq_getElem?_getD, List.getElem?_eq_getElem (by exact h)]
  simp only [List.contains_iff_mem, Option.getD_some]
  exact List.getElem_mem _
theorem special_no (c : UInt8) (h : ∀ j, j < 12 → (signs.getD j 0).toNat ≠ c.toNat) : Pp.special c = false := by
  show signs.contains c = false
  rw [Bool.eq_false_iff]
  intro hc
  rw [List.contains_iff_mem] at hc
  obtain ⟨j, hj, e⟩ := List.mem_iff_getElem.1 hc
  refine h j hj ?_
  rw [List.getD_eq_getElem?_getD, List.getElem?_eq_getElem hj, ← e]
  rfl

end Go.Proofs.Ytnlbbomejpopnaa
