/- The specification of ProgramOk: names, plain texts. The specification of ProgramOk: names. -/
import Derived.Test.YtjbodcakhnkggaqZah
import Derived.Test.YtjbodcakhnkggaqZaj
namespace Go.Proofs.Ytjbodcakhnkggaq
section PartPgA
open Go.RowKit

set_option maxHeartbeats 400000 in
theorem sIn_any (x lo hi : Int) (w : World) : Calls Try.prog 28 #[.int .i64 x, .int .i64 lo, .int .i64 hi] w fun e w' => e = .returned (.bool (decide (lo ≤ x ∧ x ≤ hi))) ∧ w' = w := by
  by_cases h1 : lo ≤ x
  · by_cases h2 : x ≤ hi
    · have d1 : decide (lo ≤ x) = true := decide_eq_true h1
      have d2 : decide (x ≤ hi) = true := decide_eq_true h2
      have e : decide (lo ≤ x ∧ x ≤ hi) = true := decide_eq_true ⟨h1, h2⟩
      rw [e]; clear e h1 h2
      go_enter Try.func28, Try.ntmps28
      go_wp2
      go_ret
      exact ⟨rfl, rfl⟩
    · have d1 : decide (lo ≤ x) = true := decide_eq_true h1
      have d2 : decide (x ≤ hi) = false := decide_eq_false h2
      have e : decide (lo ≤ x ∧ x ≤ hi) = false := decide_eq_false (fun k => h2 k.2)
      rw [e]; clear e h1 h2
      go_enter Try.func28, Try.ntmps28
      go_wp2
      go_ret
      exact ⟨rfl, rfl⟩
  · have d1 : decide (lo ≤ x) = false := decide_eq_false h1
    have e : decide (lo ≤ x ∧ x ≤ hi) = false := decide_eq_false (fun k => h1 k.1)
    rw [e]; clear e h1
    go_enter Try.func28, Try.ntmps28
    go_wp2
    go_ret
    exact ⟨rfl, rfl⟩

theorem plain_no {s : ByteArray} {most : Nat} {m : UInt8} {j : Nat} (h : j < s.size) (hb : s[j] = m ∨ s[j] = 10) : Pg.plain s.data.toList most m = false := by
  have : s.data.toList.all (fun b => b != m && b != 10) = false := by
    rw [List.all_eq_false]
    refine ⟨s[j], ?_, ?_⟩
    · show s.data[j] ∈ s.data.toList
      simp
    · rcases hb with hb | hb <;> simp [hb]
  unfold Pg.plain
  rw [this]
  rfl
theorem plain_yes {s : ByteArray} {most : Nat} {m : UInt8} (h : ∀ j, ∀ h : j < s.size, s[j] ≠ m ∧ s[j] ≠ 10) : Pg.plain s.data.toList most m = decide (s.size ≤ most) := by
  have e : s.data.toList.all (fun b => b != m && b != 10) = true := by
    rw [List.all_eq_true]
    intro b hb
    obtain ⟨i, hi, rfl⟩ := List.mem_iff_getElem.1 hb
    have hi2 : i < s.size := by simpa using hi
    have := h i hi2
    rw [lst_at s i hi2]
    simp [this.1, this.2]
  unfold Pg.plain
  rw [e]
  simp

end PartPgA
section PartPgB
open Go.RowKit

theorem name_word {s : ByteArray} (h : s.data.toList ∈ Pg.words) : Pg.name s.data.toList = false := by
  unfold Pg.name
  rw [List.contains_iff_mem.2 h]
  rfl
theorem name_no {s : ByteArray} {j : Nat} (h : j < s.size) (hl : Tk.letter s[j] = false) : Pg.name s.data.toList = false := by
  have : s.data.toList.all Tk.letter = false := by
    rw [List.all_eq_false]
    refine ⟨s[j], ?_, by rw [hl]; simp⟩
    show s.data[j] ∈ s.data.toList
    simp
  unfold Pg.name
  rw [this]
  simp
theorem name_yes {s : ByteArray} (hw : s.data.toList ∉ Pg.words) (h : ∀ j, ∀ h : j < s.size, Tk.letter s[j] = true) : Pg.name s.data.toList = decide ((1 : Int) ≤ (s.size : Int) ∧ (s.size : Int) ≤ 8) := by
  have e : s.data.toList.all Tk.letter = true := by
    rw [List.all_eq_true]
    intro b hb
    obtain ⟨i, hi, rfl⟩ := List.mem_iff_getElem.1 hb
    have hi2 : i < s.size := by simpa using hi
    exact h i hi2
  have e2 : Pg.words.contains s.data.toList = false := by
    cases hc : Pg.words.contains s.data.toList with
    | false => rfl
    | true => exact absurd (List.contains_iff_mem.1 hc) hw
  unfold Pg.name
  rw [e, e2]
  have e3 : s.data.toList.length = s.size := by simp
  rw [e3]
  by_cases h8 : 1 ≤ s.size ∧ s.size ≤ 8
  · rw [decide_eq_true h8, decide_eq_true (by omega)]; rfl
  · rw [decide_eq_false h8, decide_eq_false (by omega)]; rfl

end PartPgB
end Go.Proofs.Ytjbodcakhnkggaq
