/- The specification of Tokens: letters, figures, what stands between two marks. The specification of ProgramOk: names, plain texts. -/
import Derived.Test.YthbblocllicmiadZac
import Derived.Test.YthbblocllicmiadZaf
import Derived.Test.YthbblocllicmiadZae
namespace Go.Proofs.Ythbblocllicmiad
section PartTkA
open Go.RowKit

theorem lst_at (s : ByteArray) (j : Nat) (h : j < s.size) : s.data.toList[j]'(by simpa using h) = s[j] := rfl
theorem lst_some (s : ByteArray) (j : Nat) (h : j < s.size) : s.data.toList[j]? = some s[j] := by
  rw [List.getElem?_eq_getElem (by simpa using h)]
  rfl
theorem lst_none (s : ByteArray) (j : Nat) (h : s.size ≤ j) : s.data.toList[j]? = none := List.getElem?_eq_none (by simpa using h)
theorem lst_getD (s : ByteArray) (j : Nat) (h : j < s.size) : s.data.toList.getD j 0 = s[j] := by
  rw [List.getD_eq_getElem?_getD, lst_some s j h]
  rfl

end PartTkA
section PartPgA
open Go.RowKit

theorem plain_no {s : ByteArray} {most : Nat} {m : UInt8} {j : Nat} (h : j < s.size) (hb : s[j] = m ∨ s[j] = 10) : Pg.plain s.data.toList most m = false := by
  have : s.data.toList.all (fun b => b != m && b != 10) = false := by
    rw [List.all_eq_false]
    refine ⟨s[j], ?_, ?_⟩
    · show s.data[j] ∈ s.data.toList
      simp
    · rcases hb with hb | hb <;> simp [hb]
  unfold Pg.plain
  rw [this]
  rfl
theorem plain_yes {s : ByteArray} {most : Nat} {m : UInt8} (h : ∀ j, ∀ h : j < s.size, s[j] ≠ m ∧ s[j] ≠ 10) : Pg.plain s.data.toList most m = decide (s.size ≤ most) := by
  have e : s.data.toList.all (fun b => b != m && b != 10) = true := by
    rw [List.all_eq_true]
    intro b hb
    obtain ⟨i, hi, rfl⟩ := List.mem_iff_getElem.1 hb
    have hi2 : i < s.size := by simpa using hi
    have := h i hi2
    rw [lst_at s i hi2]
    simp [this.1, this.2]
  unfold Pg.plain
  rw [e]
  simp

end PartPgA
end Go.Proofs.Ythbblocllicmiad
