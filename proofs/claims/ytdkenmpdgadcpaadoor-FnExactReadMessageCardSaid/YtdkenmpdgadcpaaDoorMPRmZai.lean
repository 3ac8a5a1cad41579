/- The specification of Tokens: letters, figures, what stands between two marks. The specification of ProgramOk: names, plain texts. -/
import Derived.Test.YtdkenmpdgadcpaaDoorMPRmZae
import Derived.Test.YtdkenmpdgadcpaaDoorMPRmZah
import Derived.Test.YtdkenmpdgadcpaaDoorMPRmZag
namespace Go.Proofs.YtdkenmpdgadcpaaDoor
section PartTkA
open Go.RowKit

theorem lst_some (s : ByteArray) (j : Nat) (h : j < s.size) : s.data.toList[j]? = some s[j] := by
  rw [List.getElem?_eq_getElem (by simpa using h)]
  rfl
theorem lst_getD (s : ByteArray) (j : Nat) (h : j < s.size) : s.data.toList.getD j 0 = s[j] := by
  rw [List.getD_eq_getElem?_getD, lst_some s j h]
  rfl

end PartTkA
section PartPgA
open Go.RowKit

end PartPgA
end Go.Proofs.YtdkenmpdgadcpaaDoor
