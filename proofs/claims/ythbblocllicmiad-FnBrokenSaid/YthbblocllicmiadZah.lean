/- The specification of ProgramOk: names. What is a number: the program's IsNum and the specification's, at every text. -/
import Derived.Test.YthbblocllicmiadZag
import Derived.Test.YthbblocllicmiadProg
import Derived.Test.YthbblocllicmiadZad
import Derived.WalkKit
import Derived.WalkSpells
import Derived.WalkLawsBesides
import Derived.Handy
import Derived.Lib.Strings
namespace Go.Proofs.Ythbblocllicmiad
section PartPgB
open Go.RowKit

theorem name_word {s : ByteArray} (h : s.data.toList ∈ Pg.words) : Pg.name s.data.toList = false := by
  unfold Pg.name
  rw [List.contains_iff_mem.2 h]
  rfl
theorem name_no {s : ByteArray} {j : Nat} (h : j < s.size) (hl : Tk.letter s[j] = false) : Pg.name s.data.toList = false := by
  have : s.data.toList.all Tk.letter = false := by
    rw [List.all_eq_false]
    refine ⟨s[j], ?_, by rw [hl]; simp⟩
    show s.data[j] ∈ s.data.toList
    simp
  unfold Pg.name
  rw [this]
  simp
theorem name_yes {s : ByteArray} (hw : s.data.toList ∉ Pg.words) (h : ∀ j, ∀ h : j < s.size, Tk.letter s[j] = true) : Pg.name s.data.toList = decide ((1 : Int) ≤ (s.size : Int) ∧ (s.size : Int) ≤ 8) := by
  have e : s.data.toList.all Tk.letter = true := by
    rw [List.all_eq_true]
    intro b hb
    obtain ⟨i, hi, rfl⟩ := List.mem_iff_getElem.1 hb
    have hi2 : i < s.size := by simpa using hi
    exact h i hi2
  have e2 : Pg.words.contains s.data.toList = false := by
    cases hc : Pg.words.contains s.data.toList with
    | false => rfl
    | true => exact absurd (List.contains_iff_mem.1 hc) hw
  unfold Pg.name
  rw [e, e2]
  have e3 : s.data.toList.length = s.size := by simp
  rw [e3]
  by_cases h8 : 1 ≤ s.size ∧ s.size ≤ 8
  · rw [decide_eq_true h8, decide_eq_true (by omega)]; rfl
  · rw [decide_eq_false h8, decide_eq_false (by omega)]; rfl

end PartPgB
section PartVNum
open Go.RowKit

theorem str_ne (s : ByteArray) (h : 0 < s.size) : s.toList.isEmpty = false := by
  rw [Lib.toList_data]
  have e : s.data.toList.length = s.size := by simp
  cases hd : s.data.toList with
  | nil => rw [hd] at e; simp at e; omega
  | cons a l => rfl
theorem str_nil (s : ByteArray) (h : ¬ 0 < s.size) : s = (⟨#[]⟩ : ByteArray) := by
  apply ByteArray.ext
  apply Array.eq_empty_of_size_eq_zero
  have : s.data.size = s.size := rfl
  omega

end PartVNum
end Go.Proofs.Ythbblocllicmiad
