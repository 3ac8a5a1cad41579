/- HasPrefix and Contains laid at this program; the sets; the program's behindGaps. -/
import Derived.Test.YtjbodcakhnkggaqZaw
import Derived.Laws.Strings3
import Derived.Lib.Strings
namespace Go.Proofs.Ytjbodcakhnkggaq
open Go.RowKit


/-! The sets of the program -/
def setLetters : ByteArray := ⟨#[97, 98, 99, 100, 101, 102, 103, 104, 105, 106, 107, 108, 109, 110, 111, 112, 113, 114, 115, 116, 117, 118, 119, 120, 121, 122, 65, 66, 67, 68, 69, 70, 71, 72, 73, 74, 75, 76, 77, 78, 79, 80, 81, 82, 83, 84, 85, 86, 87, 88, 89, 90]⟩
def setFigures : ByteArray := ⟨#[48, 49, 50, 51, 52, 53, 54, 55, 56, 57]⟩
def setGaps : ByteArray := ⟨#[32, 9]⟩
def setLine : ByteArray := ⟨#[10]⟩
def setMark (m : UInt8) : ByteArray := ⟨#[m, 10]⟩
def setSigns : ByteArray := ⟨#[123, 125, 40, 41, 91, 93, 36, 126, 60, 43, 45, 42, 37, 46, 44, 61]⟩
theorem byte_all {p : UInt8 → Bool} (h : ∀ n : Fin 256, p (UInt8.ofNat n.val) = true) (b : UInt8) : p b = true := by
  have := h ⟨b.toNat, b.toNat_lt⟩
  simpa using this
set_option maxRecDepth 100000 in
theorem letters_is (b : UInt8) : setLetters.data.toList.contains b = Tk.letter b := by
  have := byte_all (p := fun b => setLetters.data.toList.contains b == Tk.letter b) (by decide) b
  simpa using this
set_option maxRecDepth 100000 in
theorem figures_is (b : UInt8) : setFigures.data.toList.contains b = Tk.figure b := by
  have := byte_all (p := fun b => setFigures.data.toList.contains b == Tk.figure b) (by decide) b
  simpa using this
theorem gaps_is (b : UInt8) : setGaps.data.toList.contains b = Tk.blank b := by
  rw [Bool.eq_iff_iff]
  simp [setGaps, Tk.blank]
theorem line_is (b : UInt8) : (!setLine.data.toList.contains b) = (b != 10) := by
  rw [Bool.eq_iff_iff]
  simp [setLine]
theorem mark_is (m b : UInt8) : (!(setMark m).data.toList.contains b) = (b != m && b != 10) := by
  rw [Bool.eq_iff_iff]
  simp [setMark]
theorem signs_is (b : UInt8) : setSigns.data.toList.contains b = decide (b ∈ Tk.signs) := by
  simp [setSigns, Tk.signs]
theorem asc_letters : Asc setLetters := by unfold Asc; decide
theorem asc_figures : Asc setFigures := by unfold Asc; decide
theorem asc_gaps : Asc setGaps := by unfold Asc; decide
theorem asc_line : Asc setLine := by unfold Asc; decide
theorem asc_mark (m : UInt8) (h : m.toNat < 128) : Asc (setMark m) := by
  intro b hb
  simp [setMark] at hb
  rcases hb with rfl | rfl
  · exact h
  · decide
#print axioms letters_is

theorem prefix_hash (l : List UInt8) : Lib.hasPrefix l [35] = decide (l[0]? = some 35) := by
  cases l with
  | nil => rfl
  | cons b r =>
    rw [Bool.eq_iff_iff]
    simp [Lib.hasPrefix, List.isPrefixOf]
    exact eq_comm
end Go.Proofs.Ytjbodcakhnkggaq
