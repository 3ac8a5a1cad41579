/- HasPrefix and Contains laid at this program; the sets; the program's behindGaps. -/
import Derived.Test.YtbaoadfnmicijaaMPRsItC
import Derived.Laws.Strings3
import Derived.Lib.Strings
namespace Go.Proofs.Ytbaoadfnmicijaa
open Go.RowKit


/-! The sets of the program -/
def setLetters : ByteArray := ⟨#[97, 98, 99, 100, 101, 102, 103, 104, 105, 106, 107, 108, 109, 110, 111, 112, 113, 114, 115, 116, 117, 118, 119, 120, 121, 122, 65, 66, 67, 68, 69, 70, 71, 72, 73, 74, 75, 76, 77, 78, 79, 80, 81, 82, 83, 84, 85, 86, 87, 88, 89, 90]⟩
theorem byte_all {p : UInt8 → Bool} (h : ∀ n : Fin 256, p (UInt8.ofNat n.val) = true) (b : UInt8) : p b = true := by
  have := h ⟨b.toNat, b.toNat_lt⟩
  simpa using this
set_option maxRecDepth 100000 in
theorem letters_is (b : UInt8) : setLetters.data.toList.contains b = Tk.letter b := by
  have := byte_all (p := fun b => setLetters.data.toList.contains b == Tk.letter b) (by decide) b
  simpa using this
theorem asc_letters : Asc setLetters := by unfold Asc; decide

end Go.Proofs.Ytbaoadfnmicijaa
